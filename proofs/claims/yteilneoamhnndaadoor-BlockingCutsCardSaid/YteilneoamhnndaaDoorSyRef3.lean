/- Package geyserref04: Picked, Same, Copy. -/
import Derived.Test.YteilneoamhnndaaDoorSyRef2
import Derived.Test.YteilneoamhnndaaDoorPkUn
namespace Go.Proofs.YteilneoamhnndaaDoor
open Go.RowKit Go.Extern.Stop Go.Stop Go.Extern

theorem getD_map_cols (cs : List Nat) (L : List (List Nat)) (k : Nat) (h : k < cs.length) : (cs.map fun c => L.getD c []).take (k + 1) = (cs.map fun c => L.getD c []).take k ++ [L.getD (cs.getD k 0) []] := by
  rw [List.take_add_one, List.getElem?_map, List.getElem?_eq_getElem h, List.getD_eq_getElem?_getD (l := cs), List.getElem?_eq_getElem h]
  rfl

set_option maxRecDepth 1000000 in
set_option maxHeartbeats 4000000 in
theorem sSame_any {w : World} (v1 v2 : Value) (L : List (List Nat)) (h1 : MatAt byteV w v1 L) (h2 : MatAt byteV w v2 L) :
    Calls Tryd.prog 30 #[v1, v2] w fun e w' => e = .returned (.bool true) ∧ Below w.heap.size w w' := by
  have hlen := h1.len
  obtain ⟨a1, cap1, rfl, hcap1, -, hcell1⟩ := h1.opens
  obtain ⟨a2, cap2, rfl, hcap2, -, hcell2⟩ := h2.opens
  have HC1 := Lib.hid hcell1
  have HC2 := Lib.hid hcell2
  clear hcell1 hcell2 h1 h2
  go_enter Tryd.func30, Tryd.ntmps30
  go_wp2
  go_loopw [5] (fun i wr => ∃ k : Nat, k ≤ L.length ∧ i = .int .i64 k ∧ Below w.heap.size w wr) (fun i _ => L.length - (intOf i).toNat)
  case atStart => exact ⟨0, Nat.zero_le _, rfl, Below.refl _ _⟩
  case round =>
    obtain ⟨k, hk, rfl, hbel⟩ := hrel
    have HB := Lib.hid hbel
    by_cases hlt : k < L.length
    · obtain ⟨b1, off1, rfl, hc1⟩ := HC1.out (by omega)
      obtain ⟨b2, off2, rfl, hc2⟩ := HC2.out (by omega)
      obtain ⟨x1, hx1, hl1⟩ := hc1 k hlt
      obtain ⟨x2, hx2, hl2⟩ := hc2 k hlt
      have hy1 : wr.cell? ⟨b1, off1 + k, none⟩ = some x1 := (hbel.cell (p := ⟨b1, off1 + k, none⟩) (World.block_lt_of_cell? w _ hx1)).trans hx1
      have hy2 : wr.cell? ⟨b2, off2 + k, none⟩ = some x2 := (hbel.cell (p := ⟨b2, off2 + k, none⟩) (World.block_lt_of_cell? w _ hx2)).trans hx2
      have hk1 : ∀ nd, (convert 39 9 x1).run Tryd.prog (wr.drewN nd) = .ok (.string (strN (L.getD k []))) (wr.drewN nd) := fun nd => ((hl1.mono hbel).mono (below_draws (Below.refl _ _) nd)).str
      have hk2 : ∀ nd, (convert 39 9 x2).run Tryd.prog (wr.drewN nd) = .ok (.string (strN (L.getD k []))) (wr.drewN nd) := fun nd => ((hl2.mono hbel).mono (below_draws (Below.refl _ _) nd)).str
      obtain ⟨xa1, xc1, rfl, -, -, -⟩ := hl1
      obtain ⟨xa2, xc2, rfl, -, -, -⟩ := hl2
      clear hbel hc1 hc2 hx1 hx2
      generalize strN (L.getD k []) = str at *
      generalize (L.getD k []).length = ll at *
      go_wp2
      go_quiet (fail)
      go_wp2
      go_roundw
      case rel => exact ⟨k + 1, by omega, by go_num, below_draws HB.out _⟩
      case measure => simp [intOf]; omega
    · clear hbel
      go_wp2
      go_ret
      exact ⟨rfl, HB.out⟩
set_option maxRecDepth 1000000 in
set_option maxHeartbeats 4000000 in
theorem sCopy_any {w : World} (v : Value) (L : List (List Nat)) (h : MatAt byteV w v L) (hL : L.length * 24 ≤ reachBytes) (hR : ∀ r ∈ L, r.length * 1 ≤ reachBytes) :
    Calls Tryd.prog 18 #[v] w fun e w' => ∃ v', e = .returned v' ∧ MatOwn byteV 5 w.heap.size 39 w' v' L ∧ Below w.heap.size w w' := by
  obtain ⟨i0, hi0, hz0, hz1, hz2⟩ := info_parts info_sym
  obtain ⟨j0, hj0, jz0, jz1, jz2⟩ := info_parts info_u8
  have hL2 : L.length * 24 ≤ 140737488351232 := by have := hL; unfold reachBytes at this; omega
  have HR : Hid (∀ k, (L.getD k []).length ≤ 140737488351232) := Lib.hid fun k => by
    by_cases hk : k < L.length
    · have := hR _ (getD_mem_row hk); unfold reachBytes at this; omega
    · rw [List.getD_eq_getElem?_getD, List.getElem?_eq_none (by omega)]; simp
  obtain ⟨a, cap, rfl, hcap, -, hcell⟩ := h.opens
  have HC := Lib.hid hcell
  clear h hcell hL hR
  go_enter Tryd.func18, Tryd.ntmps18
  go_wp2
  go_loopw [3, 4] (fun o i wr => ∃ k : Nat, k ≤ L.length ∧ i = .int .i64 k ∧ MatOwn byteV 5 w.heap.size 39 wr o (L.take k) ∧ Below w.heap.size w wr) (fun _ i _ => L.length - (intOf i).toNat)
  case atStart => exact ⟨0, Nat.zero_le _, rfl, MatOwn.start w (Nat.le_refl _), (Below.refl _ _).alloc (Nat.le_refl _) _⟩
  case round =>
    obtain ⟨wo, hwo⟩ : ∃ wo, wo = wr := ⟨_, rfl⟩
    subst hwo
    obtain ⟨k, hk, rfl, ⟨vs, hown, hel⟩, hbel⟩ := hrel
    have hsz := hbel.size
    have HB := Lib.hid hbel
    have HEL := Lib.hid hel
    have hql : (L.take k).length = k := by rw [List.length_take]; omega
    have HQ := Lib.hid hql
    have HO := Lib.hid hown
    rw [hql] at HO
    by_cases hlt : k < L.length
    · obtain ⟨b, off, rfl, hcc⟩ := HC.out (by omega)
      obtain ⟨x, hx, hlx⟩ := hcc k hlt
      have hx1 := (hbel.cell (p := ⟨b, off + k, none⟩) (World.block_lt_of_cell? w _ hx)).trans hx
      have hrl := HR.out k
      have HBp := Lib.hid ((Below.refl wo.heap.size wo).alloc (Nat.le_refl _) (.cells #[] 5))
      have HOp := Lib.hid (World.ownsRow_made (base := w.heap.size) (e := 5) (size := 1) wo #[] 0 hsz (by decide) rfl)
      have HOq := Lib.hid (World.ownsRow_made (base := wo.heap.size) (e := 5) (size := 1) wo #[] 0 (Nat.le_refl _) (by decide) rfl)
      have hx2 : (wo.alloc (.cells #[] 5)).cell? ⟨b, off + k, none⟩ = some x := (HBp.out.cell (p := ⟨b, off + k, none⟩) (World.block_lt_of_cell? wo _ hx1)).trans hx1
      have HLX := Lib.hid ((hlx.mono hbel).mono HBp.out)
      have HS := Lib.hid (take_succ_row hlt)
      obtain ⟨ax, cx, rfl, -, -, -⟩ := hlx
      clear hcc hx hown hel hbel hql
      generalize L.getD k [] = r at *
      generalize hr : r.length = ll at *
      have HRL := Lib.hid hr
      clear hr
      go_wp2_with (first
        | (at_builtin; refine wpList_append_of (f := byteV) _ rfl (.tmp 13) (.tmp 17) 39 rfl w.heap.size 5 j0 (.int .u8 0) 1 Tryd.underlying39 hj0 jz0 jz1 jz2 rfl _ 0 [] rfl HOp.out _ r rfl HLX.out (fun y _ => rfl) (by rw [HRL.out]; unfold maxLen; omega) (by rw [HRL.out]; omega) (by simp; omega) ?_; intro op wA hownA hgrowA; have HBA := Lib.hid (HBp.out.grown hgrowA (by simp) (fun k hk => (HOq.out.lt k hk).1)); rw [HRL.out, Nat.zero_add, List.nil_append] at hownA; have HOA := Lib.hid hownA; obtain ⟨oa, oc, rfl, -, -⟩ := own_open hownA; clear hownA hgrowA)
        | (at_builtin; refine wpList_append_own _ rfl (.tmp 12) (.tmp 19) 46 rfl w.heap.size 39 i0 (.slice none 0 0) 1 24 Tryd.underlying46 hi0 hz0 hz1 hz2 rfl (by decide) u3 k vs rfl ((owns_kept HO.out HBA.out).alloc _) ⟨wA.heap.size, 0, none⟩ 1 1 [.slice oa ll oc] rfl rfl (cell_one_new _ _ _) (fun x hx => by simp at hx; subst hx; rfl) (by unfold maxLen; omega) (by omega) (by have := HBA.out.size; simp; omega) ?_; intro v3 w3 hown1 hgrow1 _; have hb3 := Lib.hid (((HB.out.trans (HBA.out.mono hsz)).alloc (Nat.le_trans hsz HBA.out.size) _).grown hgrow1 (by have := HBA.out.size; simp; omega) (fun k hk => (HO.out.lt k hk).1)); have ho3 : Hid (MatOwn byteV 5 w.heap.size 39 w3 v3 (L.take k ++ [r])) := Lib.hid (MatOwn.app (by decide) (by rw [HQ.out]; exact owns_kept HO.out HBA.out) (fun i => (HEL.out i).mono HBA.out) (ElAt.own (f := byteV) HOA.out) (by rw [HQ.out]; exact hown1) hgrow1); clear hown1 hgrow1))
      go_roundw
      case rel => exact ⟨k + 1, by omega, by go_num, by rw [HS.out]; exact ho3.out, hb3.out⟩
      case measure => simp [intOf]; omega
    · have hk' : k = L.length := by omega
      have HM : Hid (MatOwn byteV 5 w.heap.size 39 wo u3 L) := Lib.hid (by
        have h : MatOwn byteV 5 w.heap.size 39 wo u3 (L.take k) := ⟨vs, hown, hel⟩
        rwa [hk', List.take_length] at h)
      obtain ⟨oo, oc, rfl, -, -⟩ := own_open hown
      clear hown hel hbel
      go_wp2
      go_ret
      exact ⟨_, rfl, HM.out, HB.out⟩
end Go.Proofs.YteilneoamhnndaaDoor
