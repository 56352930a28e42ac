/- Package packed: Pack of columns that are none out of range, each once: the words lie in new memory. -/
import Derived.Test.YtnkkaggepokjeaaDoorPkXor
namespace Go.Proofs.YtnkkaggepokjeaaDoor
open Go.RowKit Go.Extern.Stop Go.Stop Go.Extern

set_option maxRecDepth 1000000 in
set_option maxHeartbeats 4000000 in
theorem Pack_own {w : World} (v : Value) (l : List Int) (n : Int) (h : ListAt intV w v l) (h0 : ¬ n < 0) (h4 : ¬ 4096 < n) (ho : outI l n = false) (hnd0 : l.Nodup) :
    Calls Tryd.prog 44 #[v, .int .i64 n] w fun e w' => e = .returned (.tuple #[.slice (some ⟨w.heap.size, 0, none⟩) (sizeI n).toNat (sizeI n).toNat, .nilIface]) ∧
      ∃ ws, w'.ownsRow w.heap.size 47 1 (.slice (some ⟨w.heap.size, 0, none⟩) (sizeI n).toNat (sizeI n).toNat) (sizeI n).toNat (ws.map wordV) ∧ Packs ws (sizeI n).toNat (inP l) ∧ Below w.heap.size w w' := by
  obtain ⟨i0, hi, hz0, hz1, hz2⟩ := info_parts info_u64
  have hlen := h.len
  have H1 := Lib.hid h
  have HN : Hid (-9223372036854775808 ≤ n ∧ n ≤ 9223372036854775807) := Lib.hid ⟨by omega, by omega⟩
  obtain ⟨a1, cap1, rfl, hcap, -, hcell⟩ := h
  have HC := Lib.hid hcell
  clear hcell
  have HD := Lib.hid ho
  have HIN : Hid (∀ j (hj : j < l.length), 0 ≤ l[j] ∧ l[j] < n) := Lib.hid fun j hj => by
    unfold outI at ho
    rw [List.any_eq_false] at ho
    have := ho _ (List.getElem_mem hj)
    simp at this
    omega
  obtain ⟨K, hK, hK64⟩ := sizeI_nat n
  have HK : Hid ((sizeI n).toNat = K) := Lib.hid (by omega)
  have hnK : n ≤ 64 * (K : Int) := by
    unfold sizeI at hK
    rw [if_neg (by omega)] at hK
    omega
  have HNDL := Lib.hid hnd0
  clear hnd0
  clear ho
  go_enter Tryd.func44, Tryd.ntmps44
  go_wp2_with fail
  refine (outside_any _ l n H1.out).mono ?_
  rintro e w1 ⟨rfl, rfl⟩
  rw [HD.out]
  go_wp2_with fail
  refine (Size_any n HN.out).mono ?_
  rintro e w1 ⟨rfl, rfl⟩
  rw [hK]
  go_wp2_with (at_make; refine wpList_make_full _ rfl _ _ 38 rfl w.heap.size 47 i0 (.int .u64 0) 1 Tryd.underlying38 hi hz0 hz1 .i64 .i64 _ _ K rfl rfl rfl rfl (by rw [hz2]; omega) (by unfold maxLen; omega) (Nat.le_refl _) ?_; intro w0 hown0 hgrow0; have hb0 := Lib.hid ((Below.refl w.heap.size w).grown hgrow0 (Nat.le_refl _) (fun k hk => by cases hk)); have ho0 := Lib.hid hown0; clear hown0 hgrow0)
  go_loopw [25] (fun i wr => ∃ k : Nat, k ≤ l.length ∧ i = .int .i64 k ∧ (l.take k).Nodup ∧ (∃ vs : List Nat, Packs vs K (inP (l.take k)) ∧ wr.ownsRow w.heap.size 47 1 (.slice (some ⟨w.heap.size, 0, none⟩) K K) K (vs.map wordV)) ∧ Below w.heap.size w wr) (fun i _ => l.length - (intOf i).toNat)
  case atStart => exact ⟨0, Nat.zero_le _, rfl, by simp, ⟨List.replicate K 0, (Packs.zero K).congr fun c _ => by simp [inP], by rw [List.map_replicate]; have := ho0.out; rw [Nat.mul_one] at this; exact toList_madeCells_one (.int .u64 0) K ▸ this⟩, hb0.out⟩
  case round =>
    obtain ⟨k, hk, rfl, hnd, ⟨vs, hvp, hown⟩, hbel⟩ := hrel
    have hsz := hbel.size
    have HO := Lib.hid hown
    have HB := Lib.hid hbel
    have HP := Lib.hid hvp
    have HND := Lib.hid hnd
    by_cases hlt : k < l.length
    · obtain ⟨b, off, rfl, hcc⟩ := HC.out (by omega)
      have hx0 : w.cell? ⟨b, off + k, none⟩ = some (.int .i64 l[k]) := hcc k hlt
      have hx : wr.cell? ⟨b, off + k, none⟩ = some (.int .i64 l[k]) := (hbel.cell (p := ⟨b, off + k, none⟩) (World.block_lt_of_cell? w _ hx0)).trans hx0
      obtain ⟨hc0, hcn⟩ := HIN.out k hlt
      have HX : Hid (∀ y, l[k] = y → y ∈ l.take k → ¬ l.Nodup) := Lib.hid fun y e hy => by subst e; exact not_nodup_of hlt hy
      have HY : Hid (∀ y, l[k] = y → y ∉ l.take k → (l.take (k + 1)).Nodup) := Lib.hid fun y e hy => by
        subst e
        rw [List.take_succ_eq_append_getElem hlt]
        exact nodup_snoc _ _ HND.out hy
      have HT : Hid (∀ y, l[k] = y → l.take (k + 1) = l.take k ++ [y]) := Lib.hid fun y e => by subst e; exact List.take_succ_eq_append_getElem hlt
      clear hcc hx0
      generalize l[k] = y at hx HX HY hc0 hcn HT
      obtain ⟨c, rfl⟩ : ∃ c : Nat, y = (c : Int) := ⟨y.toNat, by omega⟩
      have hcK : c < 64 * K := by omega
      have HH : Hid (hasI vs (c : Int) = decide ((c : Int) ∈ l.take k)) := Lib.hid (by rw [hasI, if_neg (by omega)]; exact hvp.2.2 c hcK)
      have HLA := Lib.hid (ListAt.of_owns (f := wordV) hown)
      have hvl := hvp.1
      have hy3 : wr.cell? ⟨w.heap.size, c / 64, none⟩ = some (.int .u64 ((vs.getD (c / 64) 0 : Nat) : Int)) := by
        rw [hown.cellAt (c / 64) (by omega)]
        have : c / 64 < vs.length := by omega
        simp [List.getD_eq_getElem?_getD, this, wordV]
      have hy4 : wr.frozen? ⟨w.heap.size, c / 64, none⟩ = false := hown.frozenAt (c / 64)
      have hzlt := hvp.2.1.getD (c / 64)
      have hplt := shl_one (c % 64) (by omega)
      have hbo := bits_or_u64_nat (vs.getD (c / 64) 0) (2 ^ (c % 64)) hzlt hplt
      have hsh : IntKind.u64.wrap ((2 : Int) ^ (c % 64)) = ((2 ^ (c % 64) : Nat) : Int) := by
        rw [show ((2 : Int) ^ (c % 64)) = ((2 ^ (c % 64) : Nat) : Int) by simp]
        exact wrap_nat _ hplt
      have HS := Lib.hid (hvp.set c hcK)
      clear hown hbel hvp hnd
      generalize vs.getD (c / 64) 0 = z at hy3 hzlt hbo HS
      generalize 2 ^ (c % 64) = P at hplt hbo HS hsh
      have hc64 : c / 64 < K := by omega
      by_cases hb : (c : Int) ∈ l.take k
      · exact absurd HNDL.out (HX.out _ rfl hb)
      · have HDD := Lib.hid (decide_eq_false hb)
        have HNN := Lib.hid (HY.out _ rfl hb)
        have HTT := Lib.hid (HT.out _ rfl)
        clear hb
        go_wp2_with fail
        refine (Has_any _ vs (c : Int) HLA.out HP.out.2.1 (by omega)).mono ?_
        rintro e w1 ⟨rfl, rfl⟩
        rw [HH.out, HDD.out]
        go_wp2_with fail
        go_region
        go_wp2
        go_roundw
        case rel => exact ⟨k + 1, by omega, by go_num, HNN.out, ⟨vs.set (c / 64) (z ||| P), HS.out.congr fun d _ => by rw [HTT.out]; exact inP_snoc _ _ _, by rw [List.map_set]; exact (HO.out.stored (c / 64) (.int .u64 ((z ||| P : Nat) : Int))).1⟩, (HB.out.setCell (p := ⟨w.heap.size, c / 64, none⟩) (Nat.le_refl _) _).drew⟩
        case measure => simp [intOf]; omega
    · have hk' : k = l.length := by omega
      clear hown hbel hvp hnd
      go_wp2
      go_ret2
      refine ⟨by rw [HK.out]; rfl, vs, by rw [HK.out]; exact HO.out, ?_, HB.out⟩
      have := HP.out
      rw [hk', List.take_length] at this
      rw [HK.out]
      exact this
end Go.Proofs.YtnkkaggepokjeaaDoor
