/- Package geyserref03: All, Words, Same, Gauss. -/
import Derived.Test.YtpnjjbbpcdeooaaMxRefB
import Derived.BigQuiet
namespace Go.Proofs.Ytpnjjbbpcdeooaa
open Go.RowKit Go.Extern.Stop Go.Stop Go.Extern

/-! ### All -/
def allTo (L : List (List Nat)) (n k : Nat) : List (List Bool) := (L.take k).map fun r => truthsB r n
theorem allTo_succ {L : List (List Nat)} {n k : Nat} (h : k < L.length) : allTo L n (k + 1) = allTo L n k ++ [truthsB (L.getD k []) n] := by
  unfold allTo
  rw [List.take_succ_eq_append_getElem h, List.map_append]
  simp [h]
theorem allTo_length {L : List (List Nat)} {n k : Nat} (h : k ≤ L.length) : (allTo L n k).length = k := by unfold allTo; rw [List.length_map, List.length_take]; omega
theorem allTo_all (L : List (List Nat)) (n : Nat) : allTo L n L.length = allB L n := by unfold allTo allB; rw [List.take_length]

set_option maxRecDepth 1000000 in
set_option maxHeartbeats 1000000 in
theorem All_any {w : World} (v : Value) (L : List (List Nat)) (n : Nat) (h : MatAt wordV w v L) (hw : ∀ r ∈ L, Word r) (hlen : ∀ k, (L.getD k []).length ≤ 100000) (hn : n ≤ 4096) (hl : L.length ≤ 100000) :
    Calls Try.prog 24 #[v, .int .i64 (n : Int)] w fun e w' => ∃ v', e = .returned v' ∧ MatAt boolV w' v' (allB L n) ∧ Below w.heap.size w w' := by
  obtain ⟨i0, hi0, hz0, hz1, hz2⟩ := info_parts info_brow
  have HWD : Hid (∀ k, Word (L.getD k [])) := Lib.hid fun k => h.getD_words hw k
  have HLEN := Lib.hid hlen
  obtain ⟨ad, cap, rfl, hcap, hcm, hcell⟩ := h.opens
  have HC := Lib.hid hcell
  clear hcell h hw hlen
  go_enter Try.func24, Try.ntmps24
  go_wp2
  go_loopw [5, 6] (fun o i wr => ∃ k : Nat, k ≤ L.length ∧ i = .int .i64 k ∧ MatOwn boolV 4 w.heap.size 67 wr o (allTo L n k) ∧ Below w.heap.size w wr) (fun _ i _ => L.length - (intOf i).toNat)
  case atStart => exact ⟨0, Nat.zero_le _, rfl, MatOwn.start w (Nat.le_refl _), (Below.refl _ _).alloc (Nat.le_refl _) _⟩
  case round =>
    obtain ⟨k, hk, rfl, ⟨vs, hown, hel⟩, hbel⟩ := hrel
    have hsz := hbel.size
    by_cases hlt : k < L.length
    · obtain ⟨b, off, rfl, hcc⟩ := HC.out (by omega)
      obtain ⟨x, hx, hlx⟩ := hcc k hlt
      have HLX := Lib.hid (hlx.mono hbel)
      obtain ⟨ax, cx, rfl, -, -, -⟩ := hlx
      have hx1 : wr.cell? ⟨b, off + k, none⟩ = some (.slice ax (L.getD k []).length cx) := (hbel.cell (p := ⟨b, off + k, none⟩) (World.block_lt_of_cell? w _ hx)).trans hx
      have HQ := Lib.hid (allTo_length (n := n) hk)
      have HO := Lib.hid hown
      rw [allTo_length hk] at HO
      have HEL := Lib.hid hel
      have HB := Lib.hid hbel
      have HS := Lib.hid (allTo_succ (n := n) hlt)
      have HWX := Lib.hid (HWD.out k)
      have HLN := Lib.hid (HLEN.out k)
      clear hcc hx hown hel hbel
      generalize L.getD k [] = r at *
      go_wp2_with fail
      refine (Truths_any _ r n HLX.out HWX.out HLN.out hn).mono ?_
      rintro e w1 ⟨vn, rfl, hvn, hbn⟩
      have HEN : Hid (ElAt boolV 4 w.heap.size w1 vn (truthsB r n)) := Lib.hid (ElAt.own hvn)
      have HO3 := Lib.hid (owns_kept HO.out hbn)
      have HEL3 := Lib.hid (fun i => (HEL.out i).mono hbn)
      have HB3 := Lib.hid (HB.out.trans (hbn.mono hsz))
      have hsz1 := HB3.out.size
      obtain ⟨an, cn, rfl, -, -⟩ := own_open hvn
      clear hvn hbn HEL HO HB HLX
      go_wp2_with (at_builtin; refine wpList_append_own _ rfl (.tmp 14) (.tmp 21) 51 rfl w.heap.size 67 i0 (.slice none 0 0) 1 24 Try.underlying51 hi0 hz0 hz1 hz2 rfl (by decide) u5 k vs rfl (HO3.out.alloc _) ⟨w1.heap.size, 0, none⟩ 1 1 [.slice an n cn] rfl rfl (cell_one_new _ _ _) (fun x hx => by simp at hx; subst hx; rfl) (by unfold maxLen; omega) (by omega) (by simp; omega) ?_; intro v2 w2 hown1 hgrow1 _; have hb2 := Lib.hid ((HB3.out.alloc hsz1 _).grown hgrow1 (by simp; omega) (fun k hk => (HO3.out.lt k hk).1)); have ho2 : Hid (MatOwn boolV 4 w.heap.size 67 w2 v2 (allTo L n k ++ [truthsB r n])) := Lib.hid (MatOwn.app (by decide) (by rw [HQ.out]; exact HO3.out) HEL3.out HEN.out (by rw [HQ.out]; exact hown1) hgrow1); clear hown1 hgrow1)
      go_roundw
      case rel => exact ⟨k + 1, by omega, by go_num, by rw [HS.out]; exact ho2.out, hb2.out⟩
      case measure => simp [intOf]; omega
    · have hk' : k = L.length := by omega
      have HM := Lib.hid (MatOwn.at ⟨vs, hown, hel⟩)
      rw [hk', allTo_all] at HM
      have HB := Lib.hid hbel
      clear hown hel hbel
      go_wp2
      go_ret
      exact ⟨_, rfl, HM.out, HB.out⟩

/-! ### Words -/
/-! ### Same -/
end Go.Proofs.Ytpnjjbbpcdeooaa
