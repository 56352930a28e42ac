/- The document's Copy of rows, at any length that memory bears: each row in a block of its own (XSep's sCopy_sep, of wider bounds). -/
import Derived.Test.YteilneoamhnndaaDoorSep
namespace Go.Proofs.YteilneoamhnndaaDoor
open Go.RowKit Go.Extern.Stop Go.Stop Go.Extern

set_option maxRecDepth 1000000 in
set_option maxHeartbeats 4000000 in
theorem sCopy_far {w : World} (v : Value) (L : List (List Nat)) (h : MatAt byteV w v L) (hL : L.length * 24 ≤ 140737488351232) (hR : ∀ r ∈ L, r.length ≤ 140737488351232) :
    Calls Tryd.prog 18 #[v] w fun e w' => ∃ v', e = .returned v' ∧ SepAt w' w.heap.size v' L ∧ Below w.heap.size w w' := by
  obtain ⟨i0, hi0, hz0, hz1, hz2⟩ := info_parts info_sym
  obtain ⟨j0, hj0, jz0, jz1, jz2⟩ := info_parts info_u8
  have HR : Hid (∀ k, (L.getD k []).length ≤ 140737488351232) := Lib.hid fun k => by
    by_cases hk : k < L.length
    · exact hR _ (getD_mem_row hk)
    · rw [List.getD_eq_getElem?_getD, List.getElem?_eq_none (by omega)]; simp
  obtain ⟨a, cap, rfl, hcap, -, hcell⟩ := h.opens
  have HC := Lib.hid hcell
  clear h hcell hR
  go_enter Tryd.func18, Tryd.ntmps18
  go_wp2
  go_loopw [3, 4] (fun o i wr => ∃ k : Nat, k ≤ L.length ∧ i = .int .i64 k ∧ SepAt wr w.heap.size o (L.take k) ∧ Below w.heap.size w wr) (fun _ i _ => L.length - (intOf i).toNat)
  case atStart => exact ⟨0, Nat.zero_le _, rfl, SepAt.start w (Nat.le_refl _), (Below.refl _ _).alloc (Nat.le_refl _) _⟩
  case round =>
    obtain ⟨wo, hwo⟩ : ∃ wo, wo = wr := ⟨_, rfl⟩
    subst hwo
    obtain ⟨k, hk, rfl, ⟨vs, hown, hel, hsp⟩, hbel⟩ := hrel
    have hsz := hbel.size
    have HB := Lib.hid hbel
    have HEL := Lib.hid hel
    have HSP := Lib.hid hsp
    have hql : (L.take k).length = k := by rw [List.length_take]; omega
    have HQ := Lib.hid hql
    have HO := Lib.hid hown
    rw [hql] at HO
    by_cases hlt : k < L.length
    · obtain ⟨b, off, rfl, hcc⟩ := HC.out (by omega)
      obtain ⟨x, hx, hlx⟩ := hcc k hlt
      have hx1 := (hbel.cell (p := ⟨b, off + k, none⟩) (World.block_lt_of_cell? w _ hx)).trans hx
      have hrl := HR.out k
      have HBp := Lib.hid ((Below.refl wo.heap.size wo).alloc (Nat.le_refl _) (.cells #[] 5))
      have HOp := Lib.hid (World.ownsRow_made (base := wo.heap.size) (e := 5) (size := 1) wo #[] 0 (Nat.le_refl _) (by decide) rfl)
      have hx2 : (wo.alloc (.cells #[] 5)).cell? ⟨b, off + k, none⟩ = some x := (HBp.out.cell (p := ⟨b, off + k, none⟩) (World.block_lt_of_cell? wo _ hx1)).trans hx1
      have HLX := Lib.hid ((hlx.mono hbel).mono HBp.out)
      have HS := Lib.hid (take_succ_row hlt)
      have HVB : Hid (∀ i, i < (L.take k).length → ∀ a, (vs.getD i nilS).ownBlock = some a → a < wo.heap.size) := Lib.hid fun i hi a ha => ((hel i hi).lt a ha).2
      obtain ⟨ax, cx, rfl, -, -, -⟩ := hlx
      clear hcc hx hown hel hsp hbel hql
      generalize L.getD k [] = r at *
      generalize hr : r.length = ll at *
      have HRL := Lib.hid hr
      clear hr
      go_wp2_with (first
        | (at_builtin; refine wpList_append_of (f := byteV) _ rfl (.tmp 13) (.tmp 17) 39 rfl wo.heap.size 5 j0 (.int .u8 0) 1 Tryd.underlying39 hj0 jz0 jz1 jz2 rfl _ 0 [] rfl HOp.out _ r rfl HLX.out (fun y _ => rfl) (by rw [HRL.out]; unfold maxLen; omega) (by rw [HRL.out]; omega) (by simp) ?_; intro op wA hownA hgrowA; have HBA := Lib.hid (HBp.out.grown hgrowA (by simp) (fun k hk => (HOp.out.lt k hk).1)); rw [HRL.out, Nat.zero_add, List.nil_append] at hownA; have HOA := Lib.hid hownA; obtain ⟨oa, oc, rfl, -, -⟩ := own_open hownA; clear hownA hgrowA)
        | (at_builtin; refine wpList_append_own _ rfl (.tmp 12) (.tmp 19) 46 rfl w.heap.size 39 i0 (.slice none 0 0) 1 24 Tryd.underlying46 hi0 hz0 hz1 hz2 rfl (by decide) u3 k vs rfl ((owns_kept HO.out HBA.out).alloc _) ⟨wA.heap.size, 0, none⟩ 1 1 [.slice oa ll oc] rfl rfl (cell_one_new _ _ _) (fun x hx => by simp at hx; subst hx; rfl) (by unfold maxLen; omega) (by omega) (by have := HBA.out.size; simp; omega) ?_; intro v3 w3 hown1 hgrow1 _; have hb3 := Lib.hid (((HB.out.trans (HBA.out.mono hsz)).alloc (Nat.le_trans hsz HBA.out.size) _).grown hgrow1 (by have := HBA.out.size; simp; omega) (fun k hk => (HO.out.lt k hk).1)); have ho3 : Hid (SepAt w3 w.heap.size v3 (L.take k ++ [r])) := Lib.hid (SepAt.snoc (x := .slice oa ll oc) (by rw [HQ.out]; exact (owns_kept HO.out HBA.out).alloc _) (fun i hi => (owns_kept (HEL.out i hi) HBA.out).alloc _) HSP.out (by rw [HRL.out]; exact ownsRow_base (HOA.out.alloc _) hsz) (fun i hi a b ha hb => Nat.lt_of_lt_of_le (HVB.out i hi a ha) (HOA.out.lt b hb).1) (by rw [HQ.out]; exact hown1) hgrow1); clear hown1 hgrow1))
      go_roundw
      case rel => exact ⟨k + 1, by omega, by go_num, by rw [HS.out]; exact ho3.out, hb3.out⟩
      case measure => simp [intOf]; omega
    · have hk' : k = L.length := by omega
      have HM : Hid (SepAt wo w.heap.size u3 L) := Lib.hid (by
        have h : SepAt wo w.heap.size u3 (L.take k) := ⟨vs, hown, hel, hsp⟩
        rwa [hk', List.take_length] at h)
      obtain ⟨oo, oc, rfl, -, -⟩ := own_open hown
      clear hown hel hsp hbel
      go_wp2
      go_ret
      exact ⟨_, rfl, HM.out, HB.out⟩
end Go.Proofs.YteilneoamhnndaaDoor
