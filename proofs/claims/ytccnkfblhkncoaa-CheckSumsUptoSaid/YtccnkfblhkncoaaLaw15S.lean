/- The fifteenth layer's law CheckSums (where all bytes together are few). -/
import Derived.Test.YtccnkfblhkncoaaLaw15
import Derived.Laws.AppendOwnNone
namespace Go.Proofs.Ytccnkfblhkncoaa
open Go.RowKit Go.Extern.Stop Go.Stop Go.Extern

theorem flat_take {α : Type} (L : List (List α)) (j : Nat) (h : j < L.length) : (L.take (j + 1)).flatten = (L.take j).flatten ++ L.getD j [] := by
  rw [List.take_add_one, List.getElem?_eq_getElem h, List.flatten_append, List.getD_eq_getElem?_getD, List.getElem?_eq_getElem h]
  simp
theorem flat_le {α : Type} (L : List (List α)) (j : Nat) : (L.take j).flatten.length ≤ L.flatten.length := by
  have h : L.flatten = (L.take j).flatten ++ (L.drop j).flatten := by rw [← List.flatten_append, List.take_append_drop]
  rw [h, List.length_append]
  omega

set_option maxRecDepth 1000000 in
set_option maxHeartbeats 4000000 in
theorem sums15 (hS : CkSumC) (hT : CkTakeC) {w : World} (v : Value) (L : List (List Nat)) (h : MatAt byteV w v L) (ho : ∀ r ∈ L, Octets r) (hR : L.flatten.length ≤ 140737488351232) :
    Calls Try.prog 3 #[v] w fun e w' => e = .returned (.bool true) ∧ Below w.heap.size w w' := by
  obtain ⟨j0, hj0, jz0, jz1, jz2⟩ := info_parts info_u8
  have hlen := h.len
  have HM := Lib.hid h
  have HS := Lib.hid hS
  have HAW := Lib.hid (awake15 hS hT)
  have HO := Lib.hid ho
  have HFO : Hid (Octets L.flatten) := Lib.hid fun x hx => by
    obtain ⟨r, hr, hx⟩ := List.mem_flatten.1 hx
    exact ho r hr x hx
  have HF0 : Hid ((L.take 0).flatten = []) := Lib.hid rfl
  have HFL : Hid (∀ j, (L.take j).flatten.length ≤ L.flatten.length) := Lib.hid (flat_le L)
  have HFS : Hid (∀ j, j < L.length → (L.take (j + 1)).flatten = (L.take j).flatten ++ L.getD j []) := Lib.hid (flat_take L)
  have HFE : Hid ((L.take L.length).flatten = L.flatten) := Lib.hid (by rw [List.take_length])
  obtain ⟨a, cap, rfl, hcap, -, hcell⟩ := h.opens
  have HC := Lib.hid hcell
  have HOS := Lib.hid (World.ownsRow_made (base := w.heap.size) (e := 5) (size := 1) w #[] 0 (Nat.le_refl _) (by decide) rfl)
  have HBe := Lib.hid ((Below.refl w.heap.size w).alloc (Nat.le_refl _) (.cells #[] 5))
  clear h hS hT ho hcell
  go_enter Try.func3, Try.ntmps3
  go_wp2_with fail
  go_loopw [3, 4] (fun x i wr => ∃ j : Nat, j ≤ L.length ∧ i = .int .i64 (j : Int) ∧ wr.ownsRow w.heap.size 5 1 x (L.take j).flatten.length ((L.take j).flatten.map byteV) ∧ Below w.heap.size w wr) (fun _ i _ => L.length - (intOf i).toNat)
  case atStart => exact ⟨0, by omega, rfl, by rw [HF0.out]; exact HOS.out, HBe.out⟩
  case round =>
    obtain ⟨wo, hwo⟩ : ∃ wo, wo = wr := ⟨_, rfl⟩
    subst hwo
    obtain ⟨j, hj, rfl, hown, hbel⟩ := hrel
    have HB := Lib.hid hbel
    have HOW := Lib.hid hown
    have hsz := hbel.size
    by_cases hlt : j < L.length
    · have d1 : decide ((j : Int) < (L.length : Int)) = true := decide_eq_true (by omega)
      obtain ⟨b, off, rfl, hcc⟩ := HC.out (by omega)
      obtain ⟨x1, hx1, hl1⟩ := hcc j hlt
      have hy1 : wo.cell? ⟨b, off + j, none⟩ = some x1 := (hbel.cell (p := ⟨b, off + j, none⟩) (World.block_lt_of_cell? w _ hx1)).trans hx1
      have HL1 := Lib.hid (hl1.mono hbel)
      have HST := Lib.hid (HFS.out j hlt)
      have hle := HFL.out (j + 1)
      rw [HST.out, List.length_append] at hle
      obtain ⟨a1, c1, rfl, -, -, -⟩ := hl1
      clear hcc hx1 hbel hown
      generalize L.getD j [] = r at *
      generalize (L.take j).flatten = F at *
      go_wp2_with (at_builtin; refine wpList_append_of _ rfl (.tmp 12) (.tmp 16) 23 rfl w.heap.size 5 j0 (.int .u8 0) 1 Try.underlying23 hj0 jz0 jz1 jz2 rfl _ F.length (F.map byteV) rfl HOW.out (.slice a1 r.length c1) r rfl HL1.out (fun y _ => rfl) (by unfold maxLen; omega) (by omega) (by omega) ?_; intro v5 w1 ho1 hg1; have HO1 := Lib.hid (show w1.ownsRow w.heap.size 5 1 v5 (F ++ r).length ((F ++ r).map byteV) by rw [List.length_append, List.map_append]; exact ho1); have HB1 := Lib.hid (HB.out.grown hg1 HB.out.size (fun k hk => (HOW.out.lt k hk).1)); clear ho1 hg1)
      go_roundw
      case rel => exact ⟨j + 1, hlt, by go_num, by rw [HST.out]; exact HO1.out, HB1.out⟩
      case measure => simp [intOf]; omega
    · obtain rfl : j = L.length := by omega
      have d1 : decide ((L.length : Int) < (L.length : Int)) = false := decide_eq_false (by omega)
      rw [HFE.out] at HOW
      have HMW := Lib.hid (HM.out.mono hbel)
      clear hbel hown
      go_wp2_with fail
      refine (HS.out _ _ L HMW.out HO.out).mono ?_
      rintro e w2 ⟨rfl, hb2⟩
      have HB2 := Lib.hid (HB.out.trans (hb2.mono HB.out.size))
      have HL2 := Lib.hid (ListAt.of_owns (f := byteV) (l := L.flatten) (owns_kept HOW.out hb2))
      clear hb2
      go_wp2_with fail
      refine (ckSum_any _ _ HL2.out HFO.out).mono ?_
      rintro e w3 ⟨rfl, hb3⟩
      have HB3 := Lib.hid (HB2.out.trans (hb3.mono HB2.out.size))
      clear hb3
      generalize crcSum L.flatten = n at *
      have hnn : ((n : Int) == (n : Int)) = true := by simp
      go_wp2_with fail
      refine (HAW.out _).mono ?_
      rintro e w6 ⟨rfl, hb6⟩
      have HB6 := Lib.hid (HB3.out.trans (hb6.mono HB3.out.size))
      clear hb6
      go_wp2
      go_ret
      exact ⟨rfl, HB6.out⟩
end Go.Proofs.Ytccnkfblhkncoaa
