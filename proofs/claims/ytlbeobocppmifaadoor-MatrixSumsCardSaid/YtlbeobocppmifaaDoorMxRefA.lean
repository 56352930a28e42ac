/- Package geyserref03: Whole, Check, Truths, sum, pivot, swap. -/
import Derived.Test.YtlbeobocppmifaaDoorMat
namespace Go.Proofs.YtlbeobocppmifaaDoor
open Go.RowKit Go.Extern.Stop Go.Stop Go.Extern

set_option maxRecDepth 1000000 in
theorem Whole_any {w : World} (v : Value) (r : List Nat) (n : Nat) (h : ListAt wordV w v r) (hw : Word r) (hn : n ≤ 4096) :
    Calls Tryd.prog 21 #[v, .int .i64 (n : Int)] w fun e w' => e = .returned (.bool (wholeB n r)) ∧ w = w' := by
  have hlen := h.len
  have HL := Lib.hid h
  obtain ⟨a, cap, rfl, -, -, -⟩ := h
  have HW := Lib.hid hw
  have HS := Lib.hid (sizeI_of hn)
  have hK := kOf_le hn
  clear hw
  by_cases hl : r.length = kOf n
  · have HLL := Lib.hid hl
    have hl64 : r.length ≤ 64 := by omega
    have HE : Hid (∀ d, n ≤ d → bitW r d = true → wholeB n r = false) := Lib.hid fun d h1 h2 => wholeB_bit h1 h2
    have HT : Hid ((∀ d, n ≤ d → bitW r d = false) → wholeB n r = true) := Lib.hid fun h => wholeB_iff.2 ⟨hl, h⟩
    generalize wholeB n r = R at *
    generalize kOf n = K at *
    have hb : ((r.length : Int) == (K : Int)) = true := by simp; omega
    have hb2 : ((r.length : Int) != (K : Int)) = false := by simp; omega
    clear hl
    go_enter Tryd.func21, Tryd.ntmps21
    go_wp2_with fail
    refine (refSize_any (n : Int) (by omega)).mono ?_
    rintro e w1 ⟨rfl, rfl⟩
    rw [HS.out]
    go_wp2_with fail
    go_loopw [5] (fun c wr => ∃ k : Nat, n ≤ k ∧ k ≤ 1000000 ∧ c = .int .i64 k ∧ (∀ d, n ≤ d → d < k → bitW r d = false) ∧ w = wr) (fun c _ => 64 * r.length - (intOf c).toNat)
    case atStart => exact ⟨n, Nat.le_refl _, by omega, rfl, fun d h1 h2 => by omega, rfl⟩
    case round =>
      obtain ⟨k, hk, hk1, rfl, hz, rfl⟩ := hrel
      have HZ := Lib.hid hz
      clear hz
      by_cases hlt : k < 64 * r.length
      · have HH : Hid (hasI r (k : Int) = bitW r k) := Lib.hid (by rw [hasI, if_neg (by omega)]; rfl)
        cases hbit : bitW r k with
        | true =>
          have HB := Lib.hid hbit
          have HR := Lib.hid (HE.out k hk hbit)
          clear hbit
          go_wp2_with fail
          refine (refHas_any _ r (k : Int) HL.out HW.out (by omega) (by omega)).mono ?_
          rintro e w1 ⟨rfl, rfl⟩
          rw [HH.out, HB.out]
          go_wp2
          go_ret
          exact ⟨by rw [HR.out]; rfl, rfl⟩
        | false =>
          have HB := Lib.hid hbit
          clear hbit
          go_wp2_with fail
          refine (refHas_any _ r (k : Int) HL.out HW.out (by omega) (by omega)).mono ?_
          rintro e w1 ⟨rfl, rfl⟩
          rw [HH.out, HB.out]
          go_wp2
          go_roundw
          case rel => exact ⟨k + 1, by omega, by omega, by go_num, fun d h1 h2 => by
            by_cases e : d = k
            · subst e; exact HB.out
            · exact HZ.out d h1 (by omega), trivial⟩
          case measure => simp [intOf]; omega
      · have HR := Lib.hid (HT.out fun d hd => by
          by_cases h2 : d < k
          · exact HZ.out d hd h2
          · exact bitW_out _ _ (by omega))
        go_wp2
        go_ret
        exact ⟨by rw [HR.out]; rfl, rfl⟩
  · have HR := Lib.hid (wholeB_len hl)
    have hb : ((r.length : Int) == (kOf n : Int)) = false := by simp; omega
    have hb2 : ((r.length : Int) != (kOf n : Int)) = true := by simp; omega
    clear hl
    generalize wholeB n r = R at *
    generalize kOf n = K at *
    go_enter Tryd.func21, Tryd.ntmps21
    go_wp2_with fail
    refine (refSize_any (n : Int) (by omega)).mono ?_
    rintro e w1 ⟨rfl, rfl⟩
    rw [HS.out]
    go_wp2
    go_ret
    exact ⟨by rw [HR.out]; rfl, rfl⟩

theorem all_whole_false {n : Nat} {L : List (List Nat)} {k : Nat} (hk : k < L.length) (h : wholeB n (L.getD k []) = false) : L.all (wholeB n) = false := by
  rw [List.all_eq_false]
  exact ⟨_, getD_mem' hk, by rw [h]; decide⟩
theorem all_whole_true {n : Nat} {L : List (List Nat)} (h : ∀ j, j < L.length → wholeB n (L.getD j []) = true) : L.all (wholeB n) = true := by
  rw [List.all_eq_true]
  intro r hr
  obtain ⟨j, hj, rfl⟩ := List.getElem_of_mem hr
  have := h j hj
  simpa [hj] using this

set_option maxRecDepth 1000000 in
theorem refCheck_any {w : World} (v : Value) (L : List (List Nat)) (n : Int) (h : MatAt wordV w v L) (hw : ∀ r ∈ L, Word r) :
    Calls Tryd.prog 14 #[v, .int .i64 n] w fun e w' => e = .returned (.int .i64 (checkM L n)) ∧ w = w' := by
  have hlen := h.len
  have HWD : Hid (∀ k, Word (L.getD k [])) := Lib.hid fun k => h.getD_words hw k
  obtain ⟨a, cap, rfl, hcap, hcm, hcell⟩ := h.opens
  clear h hw
  by_cases h0 : n < 0
  · have HR : Hid (checkM L n = 1) := Lib.hid (by unfold checkM; rw [if_pos (.inl h0)])
    clear hcell
    go_enter Tryd.func14, Tryd.ntmps14
    go_wp2
    go_ret
    exact ⟨by rw [HR.out]; rfl, rfl⟩
  by_cases h4 : 4096 < n
  · have HR : Hid (checkM L n = 1) := Lib.hid (by unfold checkM; rw [if_pos (.inr h4)])
    clear hcell
    go_enter Tryd.func14, Tryd.ntmps14
    go_wp2
    go_ret
    exact ⟨by rw [HR.out]; rfl, rfl⟩
  by_cases h5 : 4096 < L.length
  · have HR : Hid (checkM L n = 3) := Lib.hid (by unfold checkM; rw [if_neg (by omega), if_pos h5])
    have h5' : (4096 : Int) < (L.length : Int) := by omega
    clear hcell
    go_enter Tryd.func14, Tryd.ntmps14
    go_wp2
    go_ret
    exact ⟨by rw [HR.out]; rfl, rfl⟩
  obtain ⟨m, rfl⟩ : ∃ m : Nat, n = (m : Int) := ⟨n.toNat, by omega⟩
  have HR : Hid (∀ b, L.all (wholeB m) = b → checkM L (m : Int) = if b then 0 else 2) := Lib.hid fun b e => by
    unfold checkM; rw [if_neg (by omega), if_neg (by omega), show ((m : Int)).toNat = m by omega, e]
  have hL : (L.length : Int) ≤ 4096 := by omega
  have HC := Lib.hid hcell
  clear hcell
  go_enter Tryd.func14, Tryd.ntmps14
  go_wp2
  go_loopw [5] (fun i wr => ∃ k : Nat, k ≤ L.length ∧ i = .int .i64 k ∧ (∀ j, j < k → wholeB m (L.getD j []) = true) ∧ w = wr) (fun i _ => L.length - (intOf i).toNat)
  case atStart => exact ⟨0, Nat.zero_le _, rfl, fun j hj => by omega, rfl⟩
  case round =>
    obtain ⟨k, hk, rfl, hz, rfl⟩ := hrel
    have HZ := Lib.hid hz
    clear hz
    by_cases hlt : k < L.length
    · obtain ⟨b, off, rfl, hcc⟩ := HC.out (by omega)
      obtain ⟨x, hx, hlx⟩ := hcc k hlt
      have HLX := Lib.hid hlx
      obtain ⟨ax, cx, rfl, -, -, -⟩ := hlx
      have HWX := Lib.hid (HWD.out k)
      have HF : Hid (wholeB m (L.getD k []) = false → L.all (wholeB m) = false) := Lib.hid (all_whole_false hlt)
      have HT : Hid (wholeB m (L.getD k []) = true → ∀ j, j < k + 1 → wholeB m (L.getD j []) = true) := Lib.hid fun h j hj => by
        by_cases e : j = k
        · subst e; exact h
        · exact HZ.out j (by omega)
      clear hcc
      generalize L.getD k [] = r at *
      cases hb : wholeB m r with
      | true =>
        have HB := Lib.hid hb
        clear hb
        go_wp2_with fail
        refine (Whole_any _ r m HLX.out HWX.out (by omega)).mono ?_
        rintro e w1 ⟨rfl, rfl⟩
        rw [HB.out]
        go_wp2
        go_roundw
        case rel => exact ⟨k + 1, by omega, by go_num, HT.out HB.out, trivial⟩
        case measure => simp [intOf]; omega
      | false =>
        have HB := Lib.hid hb
        clear hb
        go_wp2_with fail
        refine (Whole_any _ r m HLX.out HWX.out (by omega)).mono ?_
        rintro e w1 ⟨rfl, rfl⟩
        rw [HB.out]
        go_wp2
        go_ret
        exact ⟨by rw [HR.out _ (HF.out HB.out)]; rfl, rfl⟩
    · have hk' : k = L.length := by omega
      have HA := Lib.hid (all_whole_true fun j hj => HZ.out j (by omega))
      go_wp2
      go_ret
      exact ⟨by rw [HR.out _ HA.out]; rfl, rfl⟩

set_option maxRecDepth 1000000 in
set_option maxHeartbeats 1000000 in
theorem Truths_any {w : World} (v : Value) (r : List Nat) (n : Nat) (h : ListAt wordV w v r) (hw : Word r) (hlen : r.length ≤ 100000) (hn : n ≤ 4096) :
    Calls Tryd.prog 54 #[v, .int .i64 (n : Int)] w fun e w' => ∃ v', e = .returned v' ∧ w'.ownsRow w.heap.size 4 1 v' n ((truthsB r n).map boolV) ∧ Below w.heap.size w w' := by
  obtain ⟨i0, hi, hz0, hz1, hz2⟩ := info_parts info_bool
  have HL := Lib.hid h
  have HW := Lib.hid hw
  obtain ⟨a, cap, rfl, -, -, -⟩ := h
  clear hw
  go_enter Tryd.func54, Tryd.ntmps54
  go_wp2_with (at_make; refine wpList_make_full _ rfl _ _ 49 rfl w.heap.size 4 i0 (.bool false) 1 Tryd.underlying49 hi hz0 hz1 .i64 .i64 _ _ n rfl rfl rfl rfl (by rw [hz2]; omega) (by unfold maxLen; omega) (Nat.le_refl _) ?_; intro w0 hown0 hgrow0; have hb0 := Lib.hid ((Below.refl w.heap.size w).grown hgrow0 (Nat.le_refl _) (fun k hk => by cases hk)); have ho0 := Lib.hid hown0; clear hown0 hgrow0)
  go_loopw [6] (fun i wr => ∃ k : Nat, k ≤ n ∧ i = .int .i64 k ∧ wr.ownsRow w.heap.size 4 1 (.slice (some ⟨w.heap.size, 0, none⟩) n n) n ((fillTo (bitW r) false n k).map boolV) ∧ Below w.heap.size w wr) (fun i _ => n - (intOf i).toNat)
  case atStart => exact ⟨0, Nat.zero_le _, rfl, by rw [fillTo_zero, List.map_replicate]; have := ho0.out; rw [Nat.mul_one] at this; exact toList_madeCells_one (.bool false) n ▸ this, hb0.out⟩
  case round =>
    obtain ⟨k, hk, rfl, hown, hbel⟩ := hrel
    have hsz := hbel.size
    have HO := Lib.hid hown
    have HB := Lib.hid hbel
    by_cases hlt : k < n
    · have HH : Hid (hasI r (k : Int) = bitW r k) := Lib.hid (by rw [hasI, if_neg (by omega)]; rfl)
      have hy3 : ∃ y, wr.cell? ⟨w.heap.size, k, none⟩ = some y := by
        have := hown.cellAt k (by omega)
        rw [this]
        exact ⟨_, List.getElem?_eq_getElem (by simp [fillTo_length]; exact hlt)⟩
      obtain ⟨y, hy3⟩ := hy3
      have hy4 : wr.frozen? ⟨w.heap.size, k, none⟩ = false := hown.frozenAt k
      have HS := Lib.hid (fillTo_set (bitW r) false n k)
      clear hown hbel
      go_wp2_with fail
      refine (refHas_any _ r (k : Int) (HL.out.mono HB.out) HW.out hlen (by omega)).mono ?_
      rintro e w1 ⟨rfl, rfl⟩
      rw [HH.out]
      generalize hbe : bitW r k = bt at *
      go_wp2
      go_roundw
      case rel => exact ⟨k + 1, by omega, by go_num, by rw [← HS.out, List.map_set]; exact (HO.out.stored k (.bool bt)).1, HB.out.setCell (p := ⟨w.heap.size, k, none⟩) (Nat.le_refl _) _⟩
      case measure => simp [intOf]; omega
    · have hk' : k = n := by omega
      clear hown hbel
      go_wp2
      go_ret
      exact ⟨_, rfl, by have := HO.out; rw [hk', fillTo_all] at this; exact this, HB.out⟩

set_option maxRecDepth 1000000 in
set_option maxHeartbeats 1000000 in
theorem sum_any {w : World} (v1 v2 : Value) (a b : List Bool) (h1 : ListAt boolV w v1 a) (h2 : ListAt boolV w v2 b) (hl : a.length = b.length) (hn : a.length ≤ 4096) :
    Calls Tryd.prog 64 #[v1, v2] w fun e w' => ∃ v', e = .returned v' ∧ w'.ownsRow w.heap.size 4 1 v' a.length ((sumB a b).map boolV) ∧ Below w.heap.size w w' := by
  obtain ⟨i0, hi, hz0, hz1, hz2⟩ := info_parts info_bool
  obtain ⟨a1, cap1, rfl, hcap1, -, hcell1⟩ := h1
  obtain ⟨a2, cap2, rfl, hcap2, -, hcell2⟩ := h2
  rw [← hl] at hcap2 ⊢
  have HC1 : Hid (0 < a.length → ∃ b off, a1 = some ⟨b, off, none⟩ ∧ ∀ j, j < a.length → w.cell? ⟨b, off + j, none⟩ = some (.bool (bitB a j))) := Lib.hid fun hp => by
    obtain ⟨b, off, e, h⟩ := hcell1 hp
    refine ⟨b, off, e, fun j hj => ?_⟩
    rw [h j hj]; simp [boolV, bitB, hj]
  have HC2 : Hid (0 < a.length → ∃ b' off, a2 = some ⟨b', off, none⟩ ∧ ∀ j, j < a.length → w.cell? ⟨b', off + j, none⟩ = some (.bool (bitB b j))) := Lib.hid fun hp => by
    obtain ⟨b', off, e, h⟩ := hcell2 (by omega)
    refine ⟨b', off, e, fun j hj => ?_⟩
    rw [h j (by omega)]
    have : j < b.length := by omega
    simp [boolV, bitB, this]
  have HS : Hid (sumB a b = (List.range a.length).map fun c => (bitB a c != bitB b c)) := Lib.hid rfl
  generalize sumB a b = S at *
  clear hcell1 hcell2 hl
  generalize a.length = n at *
  go_enter Tryd.func64, Tryd.ntmps64
  go_wp2_with (at_make; refine wpList_make_full _ rfl _ _ 49 rfl w.heap.size 4 i0 (.bool false) 1 Tryd.underlying49 hi hz0 hz1 .i64 .i64 _ _ n rfl rfl rfl rfl (by rw [hz2]; omega) (by unfold maxLen; omega) (Nat.le_refl _) ?_; intro w0 hown0 hgrow0; have hb0 := Lib.hid ((Below.refl w.heap.size w).grown hgrow0 (Nat.le_refl _) (fun k hk => by cases hk)); have ho0 := Lib.hid hown0; clear hown0 hgrow0)
  go_loopw [6] (fun i wr => ∃ k : Nat, k ≤ n ∧ i = .int .i64 k ∧ wr.ownsRow w.heap.size 4 1 (.slice (some ⟨w.heap.size, 0, none⟩) n n) n ((fillTo (fun c => (bitB a c != bitB b c)) false n k).map boolV) ∧ Below w.heap.size w wr) (fun i _ => n - (intOf i).toNat)
  case atStart => exact ⟨0, Nat.zero_le _, rfl, by rw [fillTo_zero, List.map_replicate]; have := ho0.out; rw [Nat.mul_one] at this; exact toList_madeCells_one (.bool false) n ▸ this, hb0.out⟩
  case round =>
    obtain ⟨k, hk, rfl, hown, hbel⟩ := hrel
    have hsz := hbel.size
    have HO := Lib.hid hown
    have HB := Lib.hid hbel
    by_cases hlt : k < n
    · obtain ⟨b1, off1, rfl, hc1⟩ := HC1.out (by omega)
      obtain ⟨b2, off2, rfl, hc2⟩ := HC2.out (by omega)
      have hx1 := hc1 k hlt
      have hx2 := hc2 k hlt
      have hy1 := (hbel.cell (p := ⟨b1, off1 + k, none⟩) (World.block_lt_of_cell? w _ hx1)).trans hx1
      have hy2 := (hbel.cell (p := ⟨b2, off2 + k, none⟩) (World.block_lt_of_cell? w _ hx2)).trans hx2
      have hy3 : ∃ y, wr.cell? ⟨w.heap.size, k, none⟩ = some y := by
        have := hown.cellAt k (by omega)
        rw [this]
        exact ⟨_, List.getElem?_eq_getElem (by simp [fillTo_length]; exact hlt)⟩
      obtain ⟨y, hy3⟩ := hy3
      have hy4 : wr.frozen? ⟨w.heap.size, k, none⟩ = false := hown.frozenAt k
      have HST := Lib.hid (fillTo_set (fun c => (bitB a c != bitB b c)) false n k)
      clear hown hbel hc1 hc2 hx1 hx2
      have hN := neqBool (bitB a k) (bitB b k) _ rfl
      generalize hbe : (bitB a k != bitB b k) = bt at *
      generalize bitB a k = p1 at hN hy1
      generalize bitB b k = p2 at hN hy2
      have HBE := Lib.hid hbe
      clear hbe
      go_wp2_with fail
      go_region
      go_wp2
      go_roundw
      case rel => exact ⟨k + 1, by omega, by go_num, by rw [← HST.out, List.map_set]; exact (HO.out.stored k (.bool bt)).1, (HB.out.setCell (p := ⟨w.heap.size, k, none⟩) (Nat.le_refl _) _).drew⟩
      case measure => simp [intOf]; omega
    · have hk' : k = n := by omega
      clear hown hbel
      go_wp2
      go_ret
      exact ⟨_, rfl, by have := HO.out; rw [hk', fillTo_all, ← HS.out] at this; exact this, HB.out⟩

theorem boolV_get (b : List Bool) (j : Nat) (h : j < b.length) : boolV b[j] = .bool (bitB b j) := by simp [boolV, bitB, h]

/-- What pivot answers. -/
def PivAns (R : List (List Bool)) (done c : Nat) (z : Int) : Prop :=
  (z = -1 ∧ ∀ k, done ≤ k → k < R.length → bitB (R.getD k []) c = false) ∨ ∃ i : Nat, z = (i : Int) ∧ done ≤ i ∧ i < R.length ∧ bitB (R.getD i []) c = true

set_option maxRecDepth 1000000 in
theorem pivot_any {w : World} (v : Value) (R : List (List Bool)) (n done c : Nat) (h : MatAt boolV w v R) (hr : ∀ k, k < R.length → (R.getD k []).length = n) (hc : c < n) (hn : n ≤ 4096) (hl : R.length ≤ 100000) (hd : done ≤ R.length) :
    Calls Tryd.prog 51 #[v, .int .i64 (done : Int), .int .i64 (c : Int)] w fun e w' => ∃ z, e = .returned (.int .i64 z) ∧ PivAns R done c z ∧ w = w' := by
  obtain ⟨a, cap, rfl, hcap, hcm, hcell⟩ := h.opens
  have HC := Lib.hid hcell
  have HR := Lib.hid hr
  clear hcell h hr
  go_enter Tryd.func51, Tryd.ntmps51
  go_wp2
  go_loopw [7] (fun i wr => ∃ k : Nat, done ≤ k ∧ k ≤ R.length ∧ i = .int .i64 k ∧ (∀ j, done ≤ j → j < k → bitB (R.getD j []) c = false) ∧ w = wr) (fun i _ => R.length - (intOf i).toNat)
  case atStart => exact ⟨done, Nat.le_refl _, hd, rfl, fun j h1 h2 => by omega, rfl⟩
  case round =>
    obtain ⟨k, hk, hk2, rfl, hz, rfl⟩ := hrel
    have HZ := Lib.hid hz
    clear hz
    by_cases hlt : k < R.length
    · obtain ⟨b, off, rfl, hcc⟩ := HC.out (by omega)
      obtain ⟨x, hx, hlx⟩ := hcc k hlt
      have hxl := HR.out k hlt
      have HBIT : Hid (bitB (R.getD k []) c = bitB (R.getD k []) c) := Lib.hid rfl
      obtain ⟨ax, cx, rfl, -, -, hcx⟩ := hlx
      obtain ⟨b2, off2, rfl, hc2⟩ := hcx (by omega)
      have hy : w.cell? ⟨b2, off2 + c, none⟩ = some (.bool (bitB (R.getD k []) c)) := by
        rw [hc2 c (by omega)]
        exact congrArg some (boolV_get _ _ _)
      rw [hxl] at hx
      clear hcc hcx hc2 hxl
      have HK : Hid (∀ bt, bitB (R.getD k []) c = bt → (bt = false → ∀ j, done ≤ j → j < k + 1 → bitB (R.getD j []) c = false) ∧ (bt = true → PivAns R done c (k : Int))) := Lib.hid fun bt e => ⟨fun h j h1 h2 => by
        by_cases e2 : j = k
        · subst e2; rw [e]; exact h
        · exact HZ.out j h1 (by omega), fun h => .inr ⟨k, rfl, hk, hlt, by rw [e]; exact h⟩⟩
      clear HBIT
      generalize bitB (R.getD k []) c = bt at hy HK
      have HK2 := Lib.hid (HK.out bt rfl)
      clear HK
      cases bt with
      | true =>
        have HP := Lib.hid (HK2.out.2 rfl)
        clear HK2
        go_wp2
        go_ret
        exact ⟨_, rfl, HP.out, rfl⟩
      | false =>
        have HP := Lib.hid (HK2.out.1 rfl)
        clear HK2
        go_wp2
        go_roundw
        case rel => exact ⟨k + 1, by omega, by omega, by go_num, HP.out, trivial⟩
        case measure => simp [intOf]; omega
    · have hk' : k = R.length := by omega
      have HP : Hid (PivAns R done c (-1)) := Lib.hid (.inl ⟨rfl, fun j h1 h2 => HZ.out j h1 (by omega)⟩)
      go_wp2
      go_ret
      exact ⟨_, rfl, HP.out, rfl⟩
end Go.Proofs.YtlbeobocppmifaaDoor
