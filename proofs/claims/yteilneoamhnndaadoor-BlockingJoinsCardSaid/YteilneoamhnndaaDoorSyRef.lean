/- Package geyserref04: Zero, Split. -/
import Derived.Test.YteilneoamhnndaaDoorJ3
namespace Go.Proofs.YteilneoamhnndaaDoor
open Go.RowKit Go.Extern.Stop Go.Stop Go.Extern

set_option maxRecDepth 1000000 in
theorem refZero_any {w : World} (v : Value) (l : List Nat) (h : ListAt byteV w v l) :
    Calls Tryd.prog 37 #[v] w fun e w' => e = .returned (.bool (zeroB l)) ∧ w = w' := by
  have hlen := h.len
  obtain ⟨a, cap, rfl, hcap, hcm, hcell⟩ := h.bytes l.length rfl
  have HC := Lib.hid hcell
  clear h hcell
  go_enter Tryd.func37, Tryd.ntmps37
  go_wp2
  go_loopw [3] (fun i wr => ∃ k : Nat, k ≤ l.length ∧ i = .int .i64 k ∧ (∀ j, j < k → l.getD j 0 = 0) ∧ w = wr) (fun i _ => l.length - (intOf i).toNat)
  case atStart => exact ⟨0, Nat.zero_le _, rfl, fun j hj => by omega, rfl⟩
  case round =>
    obtain ⟨k, hk, rfl, hz, rfl⟩ := hrel
    by_cases hlt : k < l.length
    · obtain ⟨b, off, rfl, hcc⟩ := HC.out (by omega)
      have hx := hcc k hlt
      have HT : Hid (l.getD k 0 = 0 → ∀ j, j < k + 1 → l.getD j 0 = 0) := Lib.hid fun h j hj => by
        by_cases e : j = k
        · rw [e]; exact h
        · exact hz j (by omega)
      have HF : Hid (l.getD k 0 ≠ 0 → zeroB l = false) := Lib.hid fun h => by
        unfold zeroB
        rw [List.all_eq_false]
        refine ⟨l[k], List.getElem_mem hlt, ?_⟩
        simpa [List.getD_eq_getElem?_getD, hlt] using h
      clear hcc hz
      generalize l.getD k 0 = x at *
      by_cases hx0 : x = 0
      · have hb : ((x : Int) != 0) = false := by simp [hx0]
        have hb2 : ((x : Int) == 0) = true := by simp [hx0]
        have HT' := Lib.hid (HT.out hx0)
        clear HF HT hx0
        go_wp2
        go_roundw
        case rel => exact ⟨k + 1, by omega, by go_num, HT'.out, trivial⟩
        case measure => simp [intOf]; omega
      · have hb : ((x : Int) != 0) = true := by simp; omega
        have hb2 : ((x : Int) == 0) = false := by simp; omega
        have HF' := Lib.hid (HF.out hx0)
        clear HF HT hx0
        go_wp2
        go_ret
        exact ⟨by rw [HF'.out]; rfl, rfl⟩
    · have hk' : k = l.length := by omega
      have HF : Hid (zeroB l = true) := Lib.hid (by
        unfold zeroB
        rw [List.all_eq_true]
        intro x hx
        obtain ⟨j, hj, rfl⟩ := List.getElem_of_mem hx
        have := hz j (by omega)
        simpa [List.getD_eq_getElem?_getD, hj] using this)
      clear hz
      go_wp2
      go_ret
      exact ⟨by rw [HF.out]; rfl, rfl⟩

theorem fill_piece {P : List Nat} {m k t : Nat} (h : t = m ∨ P.length ≤ k * m + t) : fillTo (fun j => P.getD (k * m + j) 0) 0 m t = pieceAt P m k := by
  unfold fillTo pieceAt
  apply List.map_congr_left
  intro j hj
  have hj' := List.mem_range.1 hj
  by_cases e : j < t
  · rw [if_pos e]
  · rw [if_neg e, List.getD_eq_getElem?_getD, List.getElem?_eq_none (by omega)]; rfl

set_option maxRecDepth 1000000 in
set_option maxHeartbeats 4000000 in
theorem refSplit_any {w : World} (v : Value) (P : List Nat) (m : Nat) (h : ListAt byteV w v P) (ho : Octets P) (h1 : 1 ≤ m) (h2 : m ≤ 64) (hP : P.length ≤ 4194304) :
    Calls Tryd.prog 31 #[v, .int .i64 (m : Int)] w fun e w' => ∃ v', e = .returned v' ∧ MatOwn byteV 5 w.heap.size 39 w' v' (splitTo P m (pieces P m)) ∧ Below w.heap.size w w' := by
  obtain ⟨i0, hi0, hz0, hz1, hz2⟩ := info_parts info_sym
  obtain ⟨j0, hj0, jz0, jz1, jz2⟩ := info_parts info_u8
  obtain ⟨a, cap, rfl, hcap, -, hcell⟩ := h.bytes P.length rfl
  have HC := Lib.hid hcell
  have HOC := Lib.hid ho
  clear h hcell ho
  go_enter Tryd.func31, Tryd.ntmps31
  go_wp2
  go_loopw [5, 6] (fun o at' wr => ∃ k : Nat, k ≤ pieces P m ∧ at' = .int .i64 ((k * m : Nat) : Int) ∧ MatOwn byteV 5 w.heap.size 39 wr o (splitTo P m k) ∧ Below w.heap.size w wr) (fun _ at' _ => P.length + 64 - (intOf at').toNat)
  case atStart => exact ⟨0, Nat.zero_le _, by rw [Nat.zero_mul]; rfl, MatOwn.start w (Nat.le_refl _), (Below.refl _ _).alloc (Nat.le_refl _) _⟩
  case round =>
    obtain ⟨wo, hwo⟩ : ∃ wo, wo = wr := ⟨_, rfl⟩
    subst hwo
    obtain ⟨k, hk, rfl, ⟨vs, hown, hel⟩, hbel⟩ := hrel
    have hsz := hbel.size
    have HB := Lib.hid hbel
    have HEL := Lib.hid hel
    have HFP := Lib.hid (fun t => @fill_piece P m k t)
    have hle := (pieces_mul (p := P) h1).2
    have hkle := Nat.mul_le_mul_right m hk
    have hkm := Nat.le_mul_of_pos_right k h1
    have HLT := Lib.hid (pieces_lt (p := P) (k := k) h1)
    have hsm : (k + 1) * m = k * m + m := Nat.succ_mul k m
    have HSM := Lib.hid hsm
    have HO := Lib.hid hown
    rw [splitTo_length] at HO
    by_cases hlt : k * m < P.length
    · have hkl := HLT.out.1 hlt
      obtain ⟨b, off, rfl, hcc⟩ := HC.out (by omega)
      have HCC := Lib.hid hcc
      clear hcc hown hel hbel HLT hsm
      generalize hq : k * m = q at *
      have HQ := Lib.hid hq
      clear hq
      have hltI : (q : Int) < (P.length : Int) := by omega
      go_wp2_with (at_make; refine wpList_make_full _ rfl _ _ 39 rfl w.heap.size 5 j0 (.int .u8 0) 1 Tryd.underlying39 hj0 jz0 jz1 .i64 .i64 _ _ m rfl rfl rfl rfl (by rw [jz2]; omega) (by unfold maxLen; omega) hsz ?_; intro w0 hown0 hgrow0; have hbw := Lib.hid ((Below.refl wo.heap.size wo).grown hgrow0 (Nat.le_refl _) (fun k hk => by cases hk)); have ho1 : Hid (w0.ownsRow w.heap.size 5 1 (.slice (some ⟨wo.heap.size, 0, none⟩) m m) m (List.replicate m (byteV 0))) := Lib.hid (by rw [Nat.mul_one] at hown0; exact toList_madeCells_one (.int .u8 0) m ▸ hown0); clear hown0 hgrow0)
      go_loopw [8] (fun i wy => ∃ t : Nat, t ≤ m ∧ i = .int .i64 t ∧ wy.ownsRow w.heap.size 5 1 (.slice (some ⟨wo.heap.size, 0, none⟩) m m) m ((fillTo (fun j => P.getD (q + j) 0) 0 m t).map byteV) ∧ Below wo.heap.size wo wy) (fun i _ => m - (intOf i).toNat)
      case atStart => exact ⟨0, Nat.zero_le _, rfl, by rw [fillTo_zero, List.map_replicate]; exact ho1.out, hbw.out⟩
      case round =>
        clear ho1 hbw
        obtain ⟨t, ht, rfl, hown, hbel⟩ := hrel
        have HO1 := Lib.hid hown
        have HB1 := Lib.hid hbel
        by_cases hc : t < m ∧ q + t < P.length
        · obtain ⟨hc1, hc2⟩ := hc
          have hx := HCC.out (q + t) hc2
          have hx1 := ((HB.out.trans (hbel.mono hsz)).cell (p := ⟨b, off + (q + t), none⟩) (World.block_lt_of_cell? w _ hx)).trans hx
          have hf1 : wr.frozen? ⟨wo.heap.size, t, none⟩ = false := hown.frozenAt t
          have hz1 : wr.cell? ⟨wo.heap.size, t, none⟩ = some (byteV ((fillTo (fun j => P.getD (q + j) 0) 0 m t).getD t 0)) := by
            rw [hown.cellAt t (by omega)]
            have : t < (fillTo (fun j => P.getD (q + j) 0) 0 m t).length := by rw [fillTo_length]; exact hc1
            rw [List.getElem?_map, List.getElem?_eq_getElem this, List.getD_eq_getElem?_getD, List.getElem?_eq_getElem this]
            rfl
          have HS := Lib.hid (fillTo_set (fun j => P.getD (q + j) 0) 0 m t)
          have hI : (q : Int) + (t : Int) < (P.length : Int) := by omega
          clear hx hown hbel
          generalize byteV ((fillTo (fun j => P.getD (q + j) 0) 0 m t).getD t 0) = Z at *
          generalize hX : P.getD (q + t) 0 = X at *
          have HX := Lib.hid hX
          clear hX
          go_wp2
          go_roundw
          case rel => exact ⟨t + 1, by omega, by go_num, by
            have h := (HO1.out.stored t (.int .u8 (X : Int))).1
            rw [← HS.out, List.map_set]
            exact h, HB1.out.setCell (p := ⟨wo.heap.size, t, none⟩) (Nat.le_refl _) _⟩
          case measure => simp [intOf]; omega
        · have hq64 : k ≤ 4194304 := by omega
          by_cases hm : t < m
          · have hI : (P.length : Int) ≤ (q : Int) + (t : Int) := by omega
            have hge : P.length ≤ q + t := by omega
            have hqI2 : q ≤ 4194304 + 64 := by omega
            have HPC : Hid ((fillTo (fun j => P.getD (q + j) 0) 0 m t).map byteV = (pieceAt P m k).map byteV) := Lib.hid (by rw [HFP.out t (.inr hge)])
            rw [HPC.out] at HO1
            clear hown hbel HPC
            go_wp2_with (at_builtin; refine wpList_append_own _ rfl (.tmp 41) (.tmp 43) 46 rfl w.heap.size 39 i0 (.slice none 0 0) 1 24 Tryd.underlying46 hi0 hz0 hz1 hz2 rfl (by decide) u5 k vs rfl ((owns_kept HO.out HB1.out).alloc _) ⟨wr.heap.size, 0, none⟩ 1 1 [.slice (some ⟨wo.heap.size, 0, none⟩) m m] rfl rfl (cell_one_new _ _ _) (fun x hx => by simp at hx; subst hx; rfl) (by unfold maxLen; omega) (by omega) (by have := HB1.out.size; simp; omega) ?_; intro v3 w3 hown1 hgrow1 _; have hb3 := Lib.hid (((HB.out.trans (HB1.out.mono hsz)).alloc (Nat.le_trans hsz HB1.out.size) _).grown hgrow1 (by have := HB1.out.size; simp; omega) (fun k hk => (HO.out.lt k hk).1)); have ho3 : Hid (MatOwn byteV 5 w.heap.size 39 w3 v3 (splitTo P m k ++ [pieceAt P m k])) := Lib.hid (MatOwn.app (by decide) (by rw [splitTo_length]; exact owns_kept HO.out HB1.out) (fun i => (HEL.out i).mono HB1.out) (ElAt.own (f := byteV) HO1.out) (by rw [splitTo_length]; exact hown1) hgrow1); clear hown1 hgrow1)
            go_roundw
            case rel => exact ⟨k + 1, by omega, by rw [HSM.out]; go_num, by rw [splitTo_succ]; exact ho3.out, hb3.out⟩
            case measure => simp [intOf]; omega
          · have htm : t = m := by omega
            have HPC : Hid ((fillTo (fun j => P.getD (q + j) 0) 0 m t).map byteV = (pieceAt P m k).map byteV) := Lib.hid (by rw [HFP.out t (.inl htm)])
            rw [HPC.out] at HO1
            clear hown hbel HPC
            go_wp2_with (at_builtin; refine wpList_append_own _ rfl (.tmp 41) (.tmp 43) 46 rfl w.heap.size 39 i0 (.slice none 0 0) 1 24 Tryd.underlying46 hi0 hz0 hz1 hz2 rfl (by decide) u5 k vs rfl ((owns_kept HO.out HB1.out).alloc _) ⟨wr.heap.size, 0, none⟩ 1 1 [.slice (some ⟨wo.heap.size, 0, none⟩) m m] rfl rfl (cell_one_new _ _ _) (fun x hx => by simp at hx; subst hx; rfl) (by unfold maxLen; omega) (by omega) (by have := HB1.out.size; simp; omega) ?_; intro v3 w3 hown1 hgrow1 _; have hb3 := Lib.hid (((HB.out.trans (HB1.out.mono hsz)).alloc (Nat.le_trans hsz HB1.out.size) _).grown hgrow1 (by have := HB1.out.size; simp; omega) (fun k hk => (HO.out.lt k hk).1)); have ho3 : Hid (MatOwn byteV 5 w.heap.size 39 w3 v3 (splitTo P m k ++ [pieceAt P m k])) := Lib.hid (MatOwn.app (by decide) (by rw [splitTo_length]; exact owns_kept HO.out HB1.out) (fun i => (HEL.out i).mono HB1.out) (ElAt.own (f := byteV) HO1.out) (by rw [splitTo_length]; exact hown1) hgrow1); clear hown1 hgrow1)
            go_roundw
            case rel => exact ⟨k + 1, by omega, by rw [HSM.out]; go_num, by rw [splitTo_succ]; exact ho3.out, hb3.out⟩
            case measure => simp [intOf]; omega
    · have hk' : k = pieces P m := by
        have := mt HLT.out.2 hlt
        omega
      have HOA : Hid (MatOwn byteV 5 w.heap.size 39 wo u5 (splitTo P m (pieces P m))) := Lib.hid (by rw [← hk']; exact ⟨vs, hown, hel⟩)
      have hltI : (P.length : Int) ≤ ((k * m : Nat) : Int) := by omega
      obtain ⟨ao, co, rfl, -, -⟩ := own_open hown
      clear hown hel hbel HLT HFP HSM hsm hle hkle hlt
      generalize k * m = q at *
      go_wp2
      go_ret
      exact ⟨_, rfl, HOA.out, HB.out⟩
end Go.Proofs.YteilneoamhnndaaDoor
