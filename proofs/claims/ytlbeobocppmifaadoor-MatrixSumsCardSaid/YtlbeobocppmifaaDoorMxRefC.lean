/- Package geyserref03: All, Words, Same, Gauss. -/
import Derived.Test.YtlbeobocppmifaaDoorMxRefB
import Derived.BigQuiet
namespace Go.Proofs.YtlbeobocppmifaaDoor
open Go.RowKit Go.Extern.Stop Go.Stop Go.Extern

/-! ### All -/
def allTo (L : List (List Nat)) (n k : Nat) : List (List Bool) := (L.take k).map fun r => truthsB r n
theorem allTo_succ {L : List (List Nat)} {n k : Nat} (h : k < L.length) : allTo L n (k + 1) = allTo L n k ++ [truthsB (L.getD k []) n] := by
  unfold allTo
  rw [List.take_succ_eq_append_getElem h, List.map_append]
  simp [h]
theorem allTo_length {L : List (List Nat)} {n k : Nat} (h : k ≤ L.length) : (allTo L n k).length = k := by unfold allTo; rw [List.length_map, List.length_take]; omega
theorem allTo_all (L : List (List Nat)) (n : Nat) : allTo L n L.length = allB L n := by unfold allTo allB; rw [List.take_length]

set_option maxRecDepth 1000000 in
set_option maxHeartbeats 1000000 in
theorem All_any {w : World} (v : Value) (L : List (List Nat)) (n : Nat) (h : MatAt wordV w v L) (hw : ∀ r ∈ L, Word r) (hlen : ∀ k, (L.getD k []).length ≤ 100000) (hn : n ≤ 4096) (hl : L.length ≤ 100000) :
    Calls Tryd.prog 35 #[v, .int .i64 (n : Int)] w fun e w' => ∃ v', e = .returned v' ∧ MatAt boolV w' v' (allB L n) ∧ Below w.heap.size w w' := by
  obtain ⟨i0, hi0, hz0, hz1, hz2⟩ := info_parts info_brow
  have HWD : Hid (∀ k, Word (L.getD k [])) := Lib.hid fun k => h.getD_words hw k
  have HLEN := Lib.hid hlen
  obtain ⟨ad, cap, rfl, hcap, hcm, hcell⟩ := h.opens
  have HC := Lib.hid hcell
  clear hcell h hw hlen
  go_enter Tryd.func35, Tryd.ntmps35
  go_wp2
  go_loopw [5, 6] (fun o i wr => ∃ k : Nat, k ≤ L.length ∧ i = .int .i64 k ∧ MatOwn boolV 4 w.heap.size 49 wr o (allTo L n k) ∧ Below w.heap.size w wr) (fun _ i _ => L.length - (intOf i).toNat)
  case atStart => exact ⟨0, Nat.zero_le _, rfl, MatOwn.start w (Nat.le_refl _), (Below.refl _ _).alloc (Nat.le_refl _) _⟩
  case round =>
    obtain ⟨k, hk, rfl, ⟨vs, hown, hel⟩, hbel⟩ := hrel
    have hsz := hbel.size
    by_cases hlt : k < L.length
    · obtain ⟨b, off, rfl, hcc⟩ := HC.out (by omega)
      obtain ⟨x, hx, hlx⟩ := hcc k hlt
      have HLX := Lib.hid (hlx.mono hbel)
      obtain ⟨ax, cx, rfl, -, -, -⟩ := hlx
      have hx1 : wr.cell? ⟨b, off + k, none⟩ = some (.slice ax (L.getD k []).length cx) := (hbel.cell (p := ⟨b, off + k, none⟩) (World.block_lt_of_cell? w _ hx)).trans hx
      have HQ := Lib.hid (allTo_length (n := n) hk)
      have HO := Lib.hid hown
      rw [allTo_length hk] at HO
      have HEL := Lib.hid hel
      have HB := Lib.hid hbel
      have HS := Lib.hid (allTo_succ (n := n) hlt)
      have HWX := Lib.hid (HWD.out k)
      have HLN := Lib.hid (HLEN.out k)
      clear hcc hx hown hel hbel
      generalize L.getD k [] = r at *
      go_wp2_with fail
      refine (Truths_any _ r n HLX.out HWX.out HLN.out hn).mono ?_
      rintro e w1 ⟨vn, rfl, hvn, hbn⟩
      have HEN : Hid (ElAt boolV 4 w.heap.size w1 vn (truthsB r n)) := Lib.hid (ElAt.own hvn)
      have HO3 := Lib.hid (owns_kept HO.out hbn)
      have HEL3 := Lib.hid (fun i => (HEL.out i).mono hbn)
      have HB3 := Lib.hid (HB.out.trans (hbn.mono hsz))
      have hsz1 := HB3.out.size
      obtain ⟨an, cn, rfl, -, -⟩ := own_open hvn
      clear hvn hbn HEL HO HB HLX
      go_wp2_with (at_builtin; refine wpList_append_own _ rfl (.tmp 14) (.tmp 21) 67 rfl w.heap.size 49 i0 (.slice none 0 0) 1 24 Tryd.underlying67 hi0 hz0 hz1 hz2 rfl (by decide) u5 k vs rfl (HO3.out.alloc _) ⟨w1.heap.size, 0, none⟩ 1 1 [.slice an n cn] rfl rfl (cell_one_new _ _ _) (fun x hx => by simp at hx; subst hx; rfl) (by unfold maxLen; omega) (by omega) (by simp; omega) ?_; intro v2 w2 hown1 hgrow1 _; have hb2 := Lib.hid ((HB3.out.alloc hsz1 _).grown hgrow1 (by simp; omega) (fun k hk => (HO3.out.lt k hk).1)); have ho2 : Hid (MatOwn boolV 4 w.heap.size 49 w2 v2 (allTo L n k ++ [truthsB r n])) := Lib.hid (MatOwn.app (by decide) (by rw [HQ.out]; exact HO3.out) HEL3.out HEN.out (by rw [HQ.out]; exact hown1) hgrow1); clear hown1 hgrow1)
      go_roundw
      case rel => exact ⟨k + 1, by omega, by go_num, by rw [HS.out]; exact ho2.out, hb2.out⟩
      case measure => simp [intOf]; omega
    · have hk' : k = L.length := by omega
      have HM := Lib.hid (MatOwn.at ⟨vs, hown, hel⟩)
      rw [hk', allTo_all] at HM
      have HB := Lib.hid hbel
      clear hown hel hbel
      go_wp2
      go_ret
      exact ⟨_, rfl, HM.out, HB.out⟩

/-! ### Words -/
set_option maxRecDepth 1000000 in
set_option maxHeartbeats 1000000 in
theorem Words_any {w : World} (v : Value) (r : List Bool) (h : ListAt boolV w v r) (hn : r.length ≤ 4096) :
    Calls Tryd.prog 41 #[v] w fun e w' => ∃ v' n, e = .returned v' ∧ w'.ownsRow w.heap.size 46 1 v' n ((wordsB r).map wordV) ∧ Below w.heap.size w w' := by
  obtain ⟨i0, hi0, hz0, hz1, hz2⟩ := info_parts info_int
  have HWB : Hid (wordsB r = packW ((colsBTo r r.length).map Int.ofNat) (sizeI (r.length : Int)).toNat) := Lib.hid (by
    rw [sizeI_of hn]; rfl)
  obtain ⟨ad, cap, rfl, hcap, hcm, hcell⟩ := h
  have HC : Hid (0 < r.length → ∃ b off, ad = some ⟨b, off, none⟩ ∧ ∀ j, j < r.length → w.cell? ⟨b, off + j, none⟩ = some (.bool (bitB r j))) := Lib.hid fun hp => by
    obtain ⟨b, off, e, hc⟩ := hcell hp
    refine ⟨b, off, e, fun j hj => ?_⟩
    rw [hc j hj]
    exact congrArg some (boolV_get _ _ _)
  clear hcell
  generalize wordsB r = W at *
  go_enter Tryd.func41, Tryd.ntmps41
  go_wp2
  go_loopw [3, 4] (fun o i wr => ∃ k : Nat, k ≤ r.length ∧ i = .int .i64 k ∧ wr.ownsRow w.heap.size 3 1 o (colsBTo r k).length ((colsBTo r k).map colV) ∧ Below w.heap.size w wr) (fun _ i _ => r.length - (intOf i).toNat)
  case atStart => exact ⟨0, Nat.zero_le _, rfl, World.ownsRow_made (base := w.heap.size) (e := 3) (size := 1) w #[] 0 (Nat.le_refl _) (by decide) rfl, (Below.refl _ _).alloc (Nat.le_refl _) _⟩
  case round =>
    obtain ⟨k, hk, rfl, hown, hbel⟩ := hrel
    have hsz := hbel.size
    have hq := colsBTo_le r k
    by_cases hlt : k < r.length
    · obtain ⟨b, off, rfl, hcc⟩ := HC.out (by omega)
      have hx0 := hcc k hlt
      have hx := (hbel.cell (p := ⟨b, off + k, none⟩) (World.block_lt_of_cell? w _ hx0)).trans hx0
      cases hb : bitB r k with
      | true =>
        rw [hb] at hx
        have HS := Lib.hid (colsBTo_one hb)
        have HO := Lib.hid (hown.alloc (.cells #[.int .i64 (k : Int)] 3))
        have HB := Lib.hid hbel
        generalize hqe : (colsBTo r k).length = q at *
        have HQ := Lib.hid hqe
        clear hqe hown hbel hb hcc hx0
        go_wp2_with (at_builtin; refine wpList_append_own _ rfl (.tmp 16) (.tmp 18) 32 rfl w.heap.size 3 i0 (.int .i64 0) 1 8 Tryd.underlying32 hi0 hz0 hz1 hz2 rfl (by decide) u3 q ((colsBTo r k).map colV) rfl HO.out ⟨wr.heap.size, 0, none⟩ 1 1 [.int .i64 (k : Int)] rfl rfl (cell_one_new _ _ _) (fun x hx => by simp at hx; subst hx; rfl) (by unfold maxLen; omega) (by omega) (by simp; omega) ?_; intro v2 w2 hown1 hgrow1 _; have hb2 := Lib.hid ((HB.out.alloc hsz _).grown hgrow1 (by simp; omega) (fun k hk => (HO.out.lt k hk).1)); have ho2 := Lib.hid hown1; clear hown1 hgrow1)
        go_roundw
        case rel => exact ⟨k + 1, by omega, by go_num, by rw [HS.out]; exact own_snoc HQ.out ho2.out, hb2.out⟩
        case measure => simp [intOf]; omega
      | false =>
        rw [hb] at hx
        have HS := Lib.hid (colsBTo_none hb)
        have HO := Lib.hid hown
        have HB := Lib.hid hbel
        clear hown hbel hb hcc hx0
        go_wp2
        go_roundw
        case rel => exact ⟨k + 1, by omega, by go_num, by rw [HS.out]; exact HO.out, HB.out⟩
        case measure => simp [intOf]; omega
    · have hk' : k = r.length := by omega
      have HLA : Hid (ListAt colV wr u3 (colsBTo r r.length)) := Lib.hid (by have := hown; rw [hk'] at this; exact ListAt.of_owns this)
      have HB := Lib.hid hbel
      clear hown hbel
      have HLI := Lib.hid HLA.out.cols
      go_wp2_with fail
      refine (refPack_own _ _ (r.length : Int) HLI.out (by omega)).mono ?_
      rintro e w1 ⟨vn, rfl, hvn, hbn⟩
      rw [← HWB.out] at hvn
      have HV := Lib.hid (ownsRow_base hvn hsz)
      have HB2 := Lib.hid (HB.out.trans (hbn.mono hsz))
      clear hvn hbn
      go_wp2
      go_ret
      exact ⟨vn, _, rfl, HV.out, HB2.out⟩

/-! ### Same -/
set_option maxRecDepth 1000000 in
theorem SameW_draws {w : World} (v1 v2 : Value) (l : List Nat) (h1 : ListAt wordV w v1 l) (h2 : ListAt wordV w v2 l) :
    Calls Tryd.prog 40 #[v1, v2] w fun e w' => e = .returned (.bool true) ∧ ∃ m, w' = w.drewN m := by
  have hlen := h1.len
  obtain ⟨a1, cap1, rfl, hcap1, -, hcell1⟩ := h1
  obtain ⟨a2, cap2, rfl, hcap2, -, hcell2⟩ := h2
  have HC1 := Lib.hid hcell1
  have HC2 := Lib.hid hcell2
  clear hcell1 hcell2
  go_enter Tryd.func40, Tryd.ntmps40
  go_wp2
  go_loopw [5] (fun i wr => ∃ k m : Nat, k ≤ l.length ∧ i = .int .i64 k ∧ w.drewN m = wr) (fun i _ => l.length - (intOf i).toNat)
  case atStart => exact ⟨0, 0, Nat.zero_le _, rfl, rfl⟩
  case round =>
    obtain ⟨k, m, hk, rfl, rfl⟩ := hrel
    by_cases hlt : k < l.length
    · obtain ⟨b1, off1, rfl, hc1⟩ := HC1.out (by omega)
      obtain ⟨b2, off2, rfl, hc2⟩ := HC2.out (by omega)
      have hx1 : w.cell? ⟨b1, off1 + k, none⟩ = some (.int .u64 (l[k] : Int)) := hc1 k hlt
      have hx2 : w.cell? ⟨b2, off2 + k, none⟩ = some (.int .u64 (l[k] : Int)) := hc2 k hlt
      clear hc1 hc2
      generalize l[k] = y at *
      have hyb : ((y : Int) != (y : Int)) = false := by simp
      go_wp2
      go_quiet (fail)
      go_wp2
      go_roundw
      case rel => exact ⟨k + 1, _, by omega, by go_num, rfl⟩
      case measure => simp [intOf]; omega
    · go_wp2
      go_ret
      exact ⟨rfl, m, rfl⟩

set_option maxRecDepth 1000000 in
theorem refSame_any {w : World} (v1 v2 : Value) (L : List (List Nat)) (h1 : MatAt wordV w v1 L) (h2 : MatAt wordV w v2 L) :
    Calls Tryd.prog 24 #[v1, v2] w fun e w' => e = .returned (.bool true) ∧ Below w.heap.size w w' := by
  have hlen := h1.len
  obtain ⟨a1, cap1, rfl, hcap1, -, hcell1⟩ := h1.opens
  obtain ⟨a2, cap2, rfl, hcap2, -, hcell2⟩ := h2.opens
  have HC1 := Lib.hid hcell1
  have HC2 := Lib.hid hcell2
  clear hcell1 hcell2 h1 h2
  go_enter Tryd.func24, Tryd.ntmps24
  go_wp2
  go_loopw [5] (fun i wr => ∃ k : Nat, k ≤ L.length ∧ i = .int .i64 k ∧ Below w.heap.size w wr) (fun i _ => L.length - (intOf i).toNat)
  case atStart => exact ⟨0, Nat.zero_le _, rfl, Below.refl _ _⟩
  case round =>
    obtain ⟨k, hk, rfl, hbel⟩ := hrel
    have HB := Lib.hid hbel
    by_cases hlt : k < L.length
    · obtain ⟨b1, off1, rfl, hc1⟩ := HC1.out (by omega)
      obtain ⟨b2, off2, rfl, hc2⟩ := HC2.out (by omega)
      obtain ⟨x1, hx1, hl1⟩ := hc1 k hlt
      obtain ⟨x2, hx2, hl2⟩ := hc2 k hlt
      have hy1 := (hbel.cell (p := ⟨b1, off1 + k, none⟩) (World.block_lt_of_cell? w _ hx1)).trans hx1
      have hy2 := (hbel.cell (p := ⟨b2, off2 + k, none⟩) (World.block_lt_of_cell? w _ hx2)).trans hx2
      have HCall : Hid (∀ nd : Nat, Calls Tryd.prog 40 #[x1, x2] (wr.drewN nd) fun e w'' => e = .returned (.bool true) ∧ ∃ m, w'' = (wr.drewN nd).drewN m) := Lib.hid fun nd =>
        SameW_draws _ _ (L.getD k []) (hl1.mono (below_draws hbel nd)) (hl2.mono (below_draws hbel nd))
      clear hbel hc1 hc2 hx1 hx2 hl1 hl2
      go_wp2
      go_quiet (exact Calls.quiet_of (HCall.out _))
      go_wp2
      go_roundw
      case rel => exact ⟨k + 1, by omega, by go_num, below_draws HB.out _⟩
      case measure => simp [intOf]; omega
    · clear hbel
      go_wp2
      go_ret
      exact ⟨rfl, HB.out⟩
end Go.Proofs.YtlbeobocppmifaaDoor
