/- Package geyserref05: long. -/
import Derived.Test.YtnkkaggepokjeaaDoorElRefA
import Derived.Test.YtnkkaggepokjeaaDoorJoinA
namespace Go.Proofs.YtnkkaggepokjeaaDoor
open Go.RowKit Go.Extern.Stop Go.Stop Go.Extern

def longTo (r s : List Nat) (n k : Nat) : List Bool := truthsB r n ++ bitsTo s k
theorem longTo_zero (r s : List Nat) (n : Nat) : longTo r s n 0 = truthsB r n := by simp [longTo, bitsTo]
theorem longTo_succ (r s : List Nat) (n k : Nat) : longTo r s n (k + 1) = longTo r s n k ++ [(s.getD (k / 8) 0).testBit (k % 8)] := by unfold longTo; rw [bitsTo_succ, List.append_assoc]
theorem longTo_length (r s : List Nat) (n k : Nat) : (longTo r s n k).length = n + k := by simp [longTo, truthsB_length, bitsTo_length]
theorem longTo_all (r s : List Nat) (n : Nat) : longTo r s n (8 * s.length) = longB r s n := rfl

set_option maxRecDepth 1000000 in
set_option maxHeartbeats 1000000 in
theorem long_any {w : World} (v1 v2 : Value) (r s : List Nat) (n : Nat) (h1 : ListAt wordV w v1 r) (h2 : ListAt byteV w v2 s) (hw : Word r) (ho : Octets s) (hlen : r.length ≤ 100000) (hn : n ≤ 4096) (hs : s.length ≤ 64) :
    Calls Tryd.prog 66 #[v1, v2, .int .i64 (n : Int)] w fun e w' => ∃ v', e = .returned v' ∧ w'.ownsRow w.heap.size 4 1 v' (n + 8 * s.length) ((longB r s n).map boolV) ∧ Below w.heap.size w w' := by
  obtain ⟨i0, hi0, hz0, hz1, hz2⟩ := info_parts info_bool
  have HL1 := Lib.hid h1
  have HWR := Lib.hid hw
  obtain ⟨a, cap, rfl, hcap, hcm, hcell⟩ := h2.bytes s.length rfl
  have HC := Lib.hid hcell
  have HOC := Lib.hid ho
  obtain ⟨a1, c1, rfl, -, -, -⟩ := h1
  clear h2 hcell ho hw
  go_enter Tryd.func66, Tryd.ntmps66
  go_wp2_with fail
  refine (Truths_any _ r n HL1.out HWR.out hlen hn).mono ?_
  rintro e w1 ⟨vn, rfl, hvn, hbn⟩
  have HO0 := Lib.hid hvn
  have HB0 := Lib.hid hbn
  obtain ⟨an, cn, rfl, -, -⟩ := own_open hvn
  clear hvn hbn
  go_wp2
  go_loopw [7, 8] (fun o i wr => ∃ k : Nat, k ≤ s.length ∧ i = .int .i64 k ∧ wr.ownsRow w.heap.size 4 1 o (n + 8 * k) ((longTo r s n (8 * k)).map boolV) ∧ Below w.heap.size w wr) (fun _ i _ => s.length - (intOf i).toNat)
  case atStart => exact ⟨0, Nat.zero_le _, rfl, by rw [Nat.mul_zero, longTo_zero]; exact HO0.out, HB0.out⟩
  case round =>
    obtain ⟨wo, hwo⟩ : ∃ wo, wo = wr := ⟨_, rfl⟩
    subst hwo
    clear HO0 HB0
    obtain ⟨k, hk, rfl, hown, hbel⟩ := hrel
    have HO := Lib.hid hown
    have HB := Lib.hid hbel
    by_cases hlt : k < s.length
    · obtain ⟨b, off, rfl, hcc⟩ := HC.out (by omega)
      have HX0 := Lib.hid (hcc k hlt)
      have hxl : s.getD k 0 < 256 := HOC.out.getD k
      have HST : Hid (∀ t, t < 8 → longTo r s n (8 * k + t + 1) = longTo r s n (8 * k + t) ++ [(s.getD k 0).testBit t]) := Lib.hid fun t ht => by
        rw [longTo_succ, show (8 * k + t) / 8 = k by omega, show (8 * k + t) % 8 = t by omega]
      clear hcc hown hbel
      generalize s.getD k 0 = x at *
      go_wp2
      go_loopw [7, 9] (fun o bt wi => ∃ t : Nat, t ≤ 8 ∧ bt = .int .i64 t ∧ wi.ownsRow w.heap.size 4 1 o (n + (8 * k + t)) ((longTo r s n (8 * k + t)).map boolV) ∧ Below w.heap.size w wi) (fun _ bt _ => 8 - (intOf bt).toNat)
      case atStart => exact ⟨0, Nat.zero_le _, rfl, HO.out, HB.out⟩
      case round =>
        clear HO HB
        obtain ⟨t, ht, rfl, hown, hbel⟩ := hrel
        have hsz := hbel.size
        have hx := HX0.out
        have hx1 := (hbel.cell (p := ⟨b, off + k, none⟩) (World.block_lt_of_cell? w _ hx)).trans hx
        have HO := Lib.hid hown
        have HB := Lib.hid hbel
        by_cases hlt8 : t < 8
        · have hxw : IntKind.u64.wrap (x : Int) = (x : Int) := by rw [IntKind.wrap_u64]; omega
          have HS := Lib.hid (HST.out t hlt8)
          have HQ := Lib.hid (longTo_length r s n (8 * k + t))
          clear hown hbel hx
          go_wp2_with fail
          refine (Bit_any x t (by omega)).mono ?_
          rintro e w2 ⟨rfl, rfl⟩
          generalize x.testBit t = bt at *
          have HOA := Lib.hid (HO.out.alloc (.cells #[.bool bt] 4))
          go_wp2_with (at_builtin; go_loud (refine wpList_append_own _ rfl _ _ 65 rfl w.heap.size 4 i0 (.bool false) 1 1 Tryd.underlying65 hi0 hz0 hz1 hz2 rfl (by decide) u7 (n + (8 * k + t)) ((longTo r s n (8 * k + t)).map boolV) rfl HOA.out ⟨wr.heap.size, 0, none⟩ 1 1 [.bool bt] rfl rfl (cell_one_new _ _ _) (fun x hx => by simp at hx; subst hx; rfl) (by unfold maxLen; omega) (by omega) (by simp; omega) ?_; intro v2 w2 hown1 hgrow1 _; have hb2 := Lib.hid ((HB.out.alloc hsz _).grown hgrow1 (by simp; omega) (fun k hk => (HO.out.lt k hk).1)); have ho2 := Lib.hid hown1; clear hown1 hgrow1))
          go_roundw
          case rel => exact ⟨t + 1, by omega, by go_num, by rw [← Nat.add_assoc (8 * k) t 1, HS.out]; have h := own_snoc (f := boolV) HQ.out ho2.out; rw [List.length_append, HQ.out] at h; exact h, hb2.out⟩
          case measure => simp [intOf]; omega
        · have ht8 : t = 8 := by omega
          subst ht8
          clear hown hbel hx
          go_wp2
          go_roundw
          case rel => exact ⟨k + 1, by omega, by go_num, HO.out, HB.out⟩
          case measure => simp [intOf]; omega
    · have hk' : k = s.length := by omega
      clear hown hbel
      go_wp2
      go_ret
      exact ⟨_, rfl, by have := HO.out; rw [hk', longTo_all] at this; exact this, HB.out⟩
end Go.Proofs.YtnkkaggepokjeaaDoor
