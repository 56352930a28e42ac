/- Package geyserref03: Whole, Check, Truths, sum, pivot, swap. -/
import Derived.Test.YtpnjjbbpcdeooaaMat
namespace Go.Proofs.Ytpnjjbbpcdeooaa
open Go.RowKit Go.Extern.Stop Go.Stop Go.Extern

theorem all_whole_false {n : Nat} {L : List (List Nat)} {k : Nat} (hk : k < L.length) (h : wholeB n (L.getD k []) = false) : L.all (wholeB n) = false := by
  rw [List.all_eq_false]
  exact ⟨_, getD_mem' hk, by rw [h]; decide⟩
theorem all_whole_true {n : Nat} {L : List (List Nat)} (h : ∀ j, j < L.length → wholeB n (L.getD j []) = true) : L.all (wholeB n) = true := by
  rw [List.all_eq_true]
  intro r hr
  obtain ⟨j, hj, rfl⟩ := List.getElem_of_mem hr
  have := h j hj
  simpa [hj] using this

set_option maxRecDepth 1000000 in
set_option maxHeartbeats 1000000 in
theorem Truths_any {w : World} (v : Value) (r : List Nat) (n : Nat) (h : ListAt wordV w v r) (hw : Word r) (hlen : r.length ≤ 100000) (hn : n ≤ 4096) :
    Calls Try.prog 37 #[v, .int .i64 (n : Int)] w fun e w' => ∃ v', e = .returned v' ∧ w'.ownsRow w.heap.size 4 1 v' n ((truthsB r n).map boolV) ∧ Below w.heap.size w w' := by
  obtain ⟨i0, hi, hz0, hz1, hz2⟩ := info_parts info_bool
  have HL := Lib.hid h
  have HW := Lib.hid hw
  obtain ⟨a, cap, rfl, -, -, -⟩ := h
  clear hw
  go_enter Try.func37, Try.ntmps37
  go_wp2_with (at_make; refine wpList_make_full _ rfl _ _ 67 rfl w.heap.size 4 i0 (.bool false) 1 Try.underlying67 hi hz0 hz1 .i64 .i64 _ _ n rfl rfl rfl rfl (by rw [hz2]; omega) (by unfold maxLen; omega) (Nat.le_refl _) ?_; intro w0 hown0 hgrow0; have hb0 := Lib.hid ((Below.refl w.heap.size w).grown hgrow0 (Nat.le_refl _) (fun k hk => by cases hk)); have ho0 := Lib.hid hown0; clear hown0 hgrow0)
  go_loopw [6] (fun i wr => ∃ k : Nat, k ≤ n ∧ i = .int .i64 k ∧ wr.ownsRow w.heap.size 4 1 (.slice (some ⟨w.heap.size, 0, none⟩) n n) n ((fillTo (bitW r) false n k).map boolV) ∧ Below w.heap.size w wr) (fun i _ => n - (intOf i).toNat)
  case atStart => exact ⟨0, Nat.zero_le _, rfl, by rw [fillTo_zero, List.map_replicate]; have := ho0.out; rw [Nat.mul_one] at this; exact toList_madeCells_one (.bool false) n ▸ this, hb0.out⟩
  case round =>
    obtain ⟨k, hk, rfl, hown, hbel⟩ := hrel
    have hsz := hbel.size
    have HO := Lib.hid hown
    have HB := Lib.hid hbel
    by_cases hlt : k < n
    · have HH : Hid (hasI r (k : Int) = bitW r k) := Lib.hid (by rw [hasI, if_neg (by omega)]; rfl)
      have hy3 : ∃ y, wr.cell? ⟨w.heap.size, k, none⟩ = some y := by
        have := hown.cellAt k (by omega)
        rw [this]
        exact ⟨_, List.getElem?_eq_getElem (by simp [fillTo_length]; exact hlt)⟩
      obtain ⟨y, hy3⟩ := hy3
      have hy4 : wr.frozen? ⟨w.heap.size, k, none⟩ = false := hown.frozenAt k
      have HS := Lib.hid (fillTo_set (bitW r) false n k)
      clear hown hbel
      go_wp2_with fail
      refine (refHas_any _ r (k : Int) (HL.out.mono HB.out) HW.out hlen (by omega)).mono ?_
      rintro e w1 ⟨rfl, rfl⟩
      rw [HH.out]
      generalize hbe : bitW r k = bt at *
      go_wp2
      go_roundw
      case rel => exact ⟨k + 1, by omega, by go_num, by rw [← HS.out, List.map_set]; exact (HO.out.stored k (.bool bt)).1, HB.out.setCell (p := ⟨w.heap.size, k, none⟩) (Nat.le_refl _) _⟩
      case measure => simp [intOf]; omega
    · have hk' : k = n := by omega
      clear hown hbel
      go_wp2
      go_ret
      exact ⟨_, rfl, by have := HO.out; rw [hk', fillTo_all] at this; exact this, HB.out⟩

set_option maxRecDepth 1000000 in
set_option maxHeartbeats 1000000 in
theorem sum_any {w : World} (v1 v2 : Value) (a b : List Bool) (h1 : ListAt boolV w v1 a) (h2 : ListAt boolV w v2 b) (hl : a.length = b.length) (hn : a.length ≤ 4096) :
    Calls Try.prog 42 #[v1, v2] w fun e w' => ∃ v', e = .returned v' ∧ w'.ownsRow w.heap.size 4 1 v' a.length ((sumB a b).map boolV) ∧ Below w.heap.size w w' := by
  obtain ⟨i0, hi, hz0, hz1, hz2⟩ := info_parts info_bool
  obtain ⟨a1, cap1, rfl, hcap1, -, hcell1⟩ := h1
  obtain ⟨a2, cap2, rfl, hcap2, -, hcell2⟩ := h2
  rw [← hl] at hcap2 ⊢
  have HC1 : Hid (0 < a.length → ∃ b off, a1 = some ⟨b, off, none⟩ ∧ ∀ j, j < a.length → w.cell? ⟨b, off + j, none⟩ = some (.bool (bitB a j))) := Lib.hid fun hp => by
    obtain ⟨b, off, e, h⟩ := hcell1 hp
    refine ⟨b, off, e, fun j hj => ?_⟩
    rw [h j hj]; simp [boolV, bitB, hj]
  have HC2 : Hid (0 < a.length → ∃ b' off, a2 = some ⟨b', off, none⟩ ∧ ∀ j, j < a.length → w.cell? ⟨b', off + j, none⟩ = some (.bool (bitB b j))) := Lib.hid fun hp => by
    obtain ⟨b', off, e, h⟩ := hcell2 (by omega)
    refine ⟨b', off, e, fun j hj => ?_⟩
    rw [h j (by omega)]
    have : j < b.length := by omega
    simp [boolV, bitB, this]
  have HS : Hid (sumB a b = (List.range a.length).map fun c => (bitB a c != bitB b c)) := Lib.hid rfl
  generalize sumB a b = S at *
  clear hcell1 hcell2 hl
  generalize a.length = n at *
  go_enter Try.func42, Try.ntmps42
  go_wp2_with (at_make; refine wpList_make_full _ rfl _ _ 67 rfl w.heap.size 4 i0 (.bool false) 1 Try.underlying67 hi hz0 hz1 .i64 .i64 _ _ n rfl rfl rfl rfl (by rw [hz2]; omega) (by unfold maxLen; omega) (Nat.le_refl _) ?_; intro w0 hown0 hgrow0; have hb0 := Lib.hid ((Below.refl w.heap.size w).grown hgrow0 (Nat.le_refl _) (fun k hk => by cases hk)); have ho0 := Lib.hid hown0; clear hown0 hgrow0)
  go_loopw [6] (fun i wr => ∃ k : Nat, k ≤ n ∧ i = .int .i64 k ∧ wr.ownsRow w.heap.size 4 1 (.slice (some ⟨w.heap.size, 0, none⟩) n n) n ((fillTo (fun c => (bitB a c != bitB b c)) false n k).map boolV) ∧ Below w.heap.size w wr) (fun i _ => n - (intOf i).toNat)
  case atStart => exact ⟨0, Nat.zero_le _, rfl, by rw [fillTo_zero, List.map_replicate]; have := ho0.out; rw [Nat.mul_one] at this; exact toList_madeCells_one (.bool false) n ▸ this, hb0.out⟩
  case round =>
    obtain ⟨k, hk, rfl, hown, hbel⟩ := hrel
    have hsz := hbel.size
    have HO := Lib.hid hown
    have HB := Lib.hid hbel
    by_cases hlt : k < n
    · obtain ⟨b1, off1, rfl, hc1⟩ := HC1.out (by omega)
      obtain ⟨b2, off2, rfl, hc2⟩ := HC2.out (by omega)
      have hx1 := hc1 k hlt
      have hx2 := hc2 k hlt
      have hy1 := (hbel.cell (p := ⟨b1, off1 + k, none⟩) (World.block_lt_of_cell? w _ hx1)).trans hx1
      have hy2 := (hbel.cell (p := ⟨b2, off2 + k, none⟩) (World.block_lt_of_cell? w _ hx2)).trans hx2
      have hy3 : ∃ y, wr.cell? ⟨w.heap.size, k, none⟩ = some y := by
        have := hown.cellAt k (by omega)
        rw [this]
        exact ⟨_, List.getElem?_eq_getElem (by simp [fillTo_length]; exact hlt)⟩
      obtain ⟨y, hy3⟩ := hy3
      have hy4 : wr.frozen? ⟨w.heap.size, k, none⟩ = false := hown.frozenAt k
      have HST := Lib.hid (fillTo_set (fun c => (bitB a c != bitB b c)) false n k)
      clear hown hbel hc1 hc2 hx1 hx2
      have hN := neqBool (bitB a k) (bitB b k) _ rfl
      generalize hbe : (bitB a k != bitB b k) = bt at *
      generalize bitB a k = p1 at hN hy1
      generalize bitB b k = p2 at hN hy2
      have HBE := Lib.hid hbe
      clear hbe
      go_wp2_with fail
      go_region
      go_wp2
      go_roundw
      case rel => exact ⟨k + 1, by omega, by go_num, by rw [← HST.out, List.map_set]; exact (HO.out.stored k (.bool bt)).1, (HB.out.setCell (p := ⟨w.heap.size, k, none⟩) (Nat.le_refl _) _).drew⟩
      case measure => simp [intOf]; omega
    · have hk' : k = n := by omega
      clear hown hbel
      go_wp2
      go_ret
      exact ⟨_, rfl, by have := HO.out; rw [hk', fillTo_all, ← HS.out] at this; exact this, HB.out⟩

theorem boolV_get (b : List Bool) (j : Nat) (h : j < b.length) : boolV b[j] = .bool (bitB b j) := by simp [boolV, bitB, h]

/-- What pivot answers. -/
def PivAns (R : List (List Bool)) (done c : Nat) (z : Int) : Prop :=
  (z = -1 ∧ ∀ k, done ≤ k → k < R.length → bitB (R.getD k []) c = false) ∨ ∃ i : Nat, z = (i : Int) ∧ done ≤ i ∧ i < R.length ∧ bitB (R.getD i []) c = true

set_option maxRecDepth 1000000 in
theorem pivot_any {w : World} (v : Value) (R : List (List Bool)) (n done c : Nat) (h : MatAt boolV w v R) (hr : ∀ k, k < R.length → (R.getD k []).length = n) (hc : c < n) (hn : n ≤ 4096) (hl : R.length ≤ 100000) (hd : done ≤ R.length) :
    Calls Try.prog 34 #[v, .int .i64 (done : Int), .int .i64 (c : Int)] w fun e w' => ∃ z, e = .returned (.int .i64 z) ∧ PivAns R done c z ∧ w = w' := by
  obtain ⟨a, cap, rfl, hcap, hcm, hcell⟩ := h.opens
  have HC := Lib.hid hcell
  have HR := Lib.hid hr
  clear hcell h hr
  go_enter Try.func34, Try.ntmps34
  go_wp2
  go_loopw [7] (fun i wr => ∃ k : Nat, done ≤ k ∧ k ≤ R.length ∧ i = .int .i64 k ∧ (∀ j, done ≤ j → j < k → bitB (R.getD j []) c = false) ∧ w = wr) (fun i _ => R.length - (intOf i).toNat)
  case atStart => exact ⟨done, Nat.le_refl _, hd, rfl, fun j h1 h2 => by omega, rfl⟩
  case round =>
    obtain ⟨k, hk, hk2, rfl, hz, rfl⟩ := hrel
    have HZ := Lib.hid hz
    clear hz
    by_cases hlt : k < R.length
    · obtain ⟨b, off, rfl, hcc⟩ := HC.out (by omega)
      obtain ⟨x, hx, hlx⟩ := hcc k hlt
      have hxl := HR.out k hlt
      have HBIT : Hid (bitB (R.getD k []) c = bitB (R.getD k []) c) := Lib.hid rfl
      obtain ⟨ax, cx, rfl, -, -, hcx⟩ := hlx
      obtain ⟨b2, off2, rfl, hc2⟩ := hcx (by omega)
      have hy : w.cell? ⟨b2, off2 + c, none⟩ = some (.bool (bitB (R.getD k []) c)) := by
        rw [hc2 c (by omega)]
        exact congrArg some (boolV_get _ _ _)
      rw [hxl] at hx
      clear hcc hcx hc2 hxl
      have HK : Hid (∀ bt, bitB (R.getD k []) c = bt → (bt = false → ∀ j, done ≤ j → j < k + 1 → bitB (R.getD j []) c = false) ∧ (bt = true → PivAns R done c (k : Int))) := Lib.hid fun bt e => ⟨fun h j h1 h2 => by
        by_cases e2 : j = k
        · subst e2; rw [e]; exact h
        · exact HZ.out j h1 (by omega), fun h => .inr ⟨k, rfl, hk, hlt, by rw [e]; exact h⟩⟩
      clear HBIT
      generalize bitB (R.getD k []) c = bt at hy HK
      have HK2 := Lib.hid (HK.out bt rfl)
      clear HK
      cases bt with
      | true =>
        have HP := Lib.hid (HK2.out.2 rfl)
        clear HK2
        go_wp2
        go_ret
        exact ⟨_, rfl, HP.out, rfl⟩
      | false =>
        have HP := Lib.hid (HK2.out.1 rfl)
        clear HK2
        go_wp2
        go_roundw
        case rel => exact ⟨k + 1, by omega, by omega, by go_num, HP.out, trivial⟩
        case measure => simp [intOf]; omega
    · have hk' : k = R.length := by omega
      have HP : Hid (PivAns R done c (-1)) := Lib.hid (.inl ⟨rfl, fun j h1 h2 => HZ.out j h1 (by omega)⟩)
      go_wp2
      go_ret
      exact ⟨_, rfl, HP.out, rfl⟩
end Go.Proofs.Ytpnjjbbpcdeooaa
