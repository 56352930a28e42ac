/- Package elim: (*System).Value. -/
import Derived.Test.YtnkkaggepokjeaaDoorElF
namespace Go.Proofs.YtnkkaggepokjeaaDoor
open Go.RowKit Go.Extern.Stop Go.Stop Go.Extern

theorem elVal_nil {w : World} (c : Value) : Calls Tryd.prog 22 #[nilP, c] w fun e w' => ∃ E, e = .returned (.tuple #[nilS, E]) ∧ ErrAns 7 nameElValue w' E ∧ Below w.heap.size w w' := by
  go_enter Tryd.func22, Tryd.ntmps22
  go_wp2_with fail
  refine over_nil.mono ?_
  rintro e w1 ⟨rfl, rfl⟩
  go_wp2_with fail
  refine (New_ans nameElValue 7 (by decide) _).mono ?_
  rintro e w1 ⟨E1, rfl, he1, hb1⟩
  have HE1 := Lib.hid he1
  have HB1 := Lib.hid hb1
  obtain ⟨u, x, rfl⟩ := he1.some (by decide)
  clear he1 hb1
  go_wp2
  go_ret2
  exact ⟨_, rfl, HE1.out, HB1.out⟩
theorem elVal_over {w : World} (b : Nat) (c : Value) (h : w.cell? ⟨b, 4, none⟩ = some (.bool true)) : Calls Tryd.prog 22 #[sysP b, c] w fun e w' => ∃ E, e = .returned (.tuple #[nilS, E]) ∧ ErrAns 7 nameElValue w' E ∧ Below w.heap.size w w' := by
  have HC := Lib.hid h
  go_enter Tryd.func22, Tryd.ntmps22
  go_wp2_with fail
  refine (over_any b true HC.out).mono ?_
  rintro e w1 ⟨rfl, rfl⟩
  go_wp2_with fail
  refine (New_ans nameElValue 7 (by decide) _).mono ?_
  rintro e w1 ⟨E1, rfl, he1, hb1⟩
  have HE1 := Lib.hid he1
  have HB1 := Lib.hid hb1
  obtain ⟨u, x, rfl⟩ := he1.some (by decide)
  clear he1 hb1
  go_wp2
  go_ret2
  exact ⟨_, rfl, HE1.out, HB1.out⟩

/-- A literal of one number. -/
theorem lit_one (w : World) (c : Int) : ∃ w0, w0 = w.alloc (.cells #[.int .i64 c] 3) ∧ Below w.heap.size w w0 ∧ ListAt intV w0 (.slice (some ⟨w.heap.size, 0, none⟩) 1 1) [c] :=
  ⟨_, rfl, (Below.refl _ _).alloc (Nat.le_refl _) _, _, 1, rfl, Nat.le_refl _, by unfold maxLen; omega, fun _ => ⟨w.heap.size, 0, rfl, fun j hj => by
    obtain rfl : j = 0 := by simpa using hj
    exact World.cell?_alloc_new _ _ _ _⟩⟩

set_option maxRecDepth 1000000 in
theorem elVal_range {w : World} (b n : Nat) (c : Int) (h0 : w.cell? ⟨b, 0, none⟩ = some (.int .i64 (n : Int))) (h4 : w.cell? ⟨b, 4, none⟩ = some (.bool false)) (hn : n ≤ 4096) (hc : c < 0 ∨ (n : Int) ≤ c) :
    Calls Tryd.prog 22 #[sysP b, .int .i64 c] w fun e w' => ∃ E, e = .returned (.tuple #[nilS, E]) ∧ ErrAns 1 nameElValue w' E ∧ Below w.heap.size w w' := by
  have HC := Lib.hid h4
  obtain ⟨w0, hw0, hb0, hl0⟩ := lit_one w c
  have hlt := World.block_lt_of_cell? w _ h0
  have hx0 := (hb0.cell (p := ⟨b, 0, none⟩) hlt).trans h0
  have HW0 := Lib.hid hw0
  have HB0 := Lib.hid hb0
  have HL0 := Lib.hid hl0
  have HCK : Hid (checkI [c] (n : Int) = 1) := Lib.hid (by
    have : outI [c] (n : Int) = true := by unfold outI; simp; omega
    rw [checkI, if_pos (.inr (.inr this))])
  clear hw0 hb0 hl0 hc h4
  go_enter Tryd.func22, Tryd.ntmps22
  go_wp2_with fail
  refine (over_any b false HC.out).mono ?_
  rintro e w1 ⟨rfl, rfl⟩
  go_wp2_with fail
  rw [← HW0.out]
  refine (Pack_any _ [c] (n : Int) HL0.out (by omega)).mono ?_
  rintro e w1 ⟨v1, E1, rfl, ha, hb1⟩
  unfold packAns at ha
  rw [HCK.out, if_neg (by decide)] at ha
  obtain ⟨rfl, hch⟩ := ha
  have HCH := Lib.hid hch
  have HB1 := Lib.hid (HB0.out.trans (hb1.mono HB0.out.size))
  obtain ⟨u, x, rfl⟩ := hch.iface
  clear hch hb1
  go_wp2_with fail
  refine (Wrap_chain nameElValue _ _ _ _ HCH.out).mono ?_
  rintro e w2 ⟨E2, rfl, hc2, hb2⟩
  have HC2 := Lib.hid hc2
  have HB2 := Lib.hid (HB1.out.trans (hb2.mono HB1.out.size))
  obtain ⟨u2, x2, rfl⟩ := hc2.iface
  clear hc2 hb2
  go_wp2
  go_ret2
  exact ⟨_, rfl, .inr ⟨by decide, _, HC2.out⟩, HB2.out⟩

theorem packs_unit {ws : List Nat} {c n : Nat} (hc : c < n) (h : Packs ws (kOf n) (inP [(c : Int)])) : bitW ws = unitV c ∧ ws.length = kOf n ∧ Word ws := by
  obtain ⟨h1, h2, h3⟩ := h
  refine ⟨?_, h1, h2⟩
  funext d
  by_cases hd : d < 64 * kOf n
  · rw [h3 d hd]
    unfold inP unitV
    simp
    omega
  · rw [bitW_out _ _ (by rw [h1]; omega)]
    have : d ≠ c := by unfold kOf at hd; omega
    simp [unitV, this]

set_option maxRecDepth 1000000 in
set_option maxHeartbeats 4000000 in
theorem elVal_any {w : World} (b kb n size : Nat) (f : Nat → Option Eqn) (rv sv : Nat → Value) (c : Nat) (hS : SysM w b kb n size f rv sv false) (hT : Tab w) (hc : c < n) :
    Calls Tryd.prog 22 #[sysP b, .int .i64 (c : Int)] w fun e w' => Below w.heap.size w w' ∧
      ((¬ Sp ((stL (uF f n) n).map (proj n)) (unitV c) ∧ ∃ E, e = .returned (.tuple #[nilS, E]) ∧ ErrAns 4 nameElValue w' E) ∨
       ∃ x v', ValV n (stL (uF f n) n) c x ∧ e = .returned (.tuple #[v', .nilIface]) ∧ w'.ownsRow w.heap.size 5 1 v' size ((symV n size x).map byteV)) := by
  obtain ⟨i0, hi, hz0, hz1, hz2⟩ := info_parts info_u8
  obtain ⟨hn1, hn2, hs1, hs2⟩ := hS.num
  have hK64 : kOf n ≤ 64 := kOf_le hn2
  have hKp : 0 < kOf n := by unfold kOf; omega
  obtain ⟨h0, h1, -, -, h4⟩ := hS.cells
  have HC := Lib.hid h4
  have HS := Lib.hid hS
  have HT := Lib.hid hT
  obtain ⟨w0, hw0, hb0, hl0⟩ := lit_one w (c : Int)
  have hlt := hS.lt
  have hx0 := (hb0.cell (p := ⟨b, 0, none⟩) hlt).trans h0
  have HX1 := Lib.hid ((hb0.cell (p := ⟨b, 1, none⟩) hlt).trans h1)
  have HW0 := Lib.hid hw0
  have HB0 := Lib.hid hb0
  have HL0 := Lib.hid hl0
  have HSI := Lib.hid (sizeI_of hn2)
  have HOI : Hid (outI [(c : Int)] (n : Int) = false) := Lib.hid (by unfold outI; simp; omega)
  clear hw0 hb0 hl0 h4 hS hT h1
  go_enter Tryd.func22, Tryd.ntmps22
  go_wp2_with fail
  refine (over_any b false HC.out).mono ?_
  rintro e w1 ⟨rfl, rfl⟩
  go_wp2_with fail
  rw [← HW0.out]
  refine (Pack_own _ [(c : Int)] (n : Int) HL0.out (by omega) (by omega) HOI.out (by simp)).mono ?_
  rintro e w1 ⟨rfl, ws, hown, hpk, hb1⟩
  have e64 : (sizeI (n : Int)).toNat = kOf n := by rw [HSI.out]; omega
  rw [e64] at hown hpk ⊢
  have hk1 := HB0.out.size
  have HB1 := Lib.hid (HB0.out.trans (hb1.mono HB0.out.size))
  have HOW := Lib.hid (ownsRow_base hown hk1)
  have HPK := Lib.hid (packs_unit hc hpk)
  have hx1 : w1.cell? ⟨b, 1, none⟩ = some (.int .i64 (size : Int)) := (hb1.cell (p := ⟨b, 1, none⟩) (show b < w0.heap.size by omega)).trans HX1.out
  clear hown hpk hb1 e64
  go_wp2_with (at_make; refine wpList_make_full _ rfl _ _ 39 rfl w.heap.size 5 i0 (.int .u8 0) 1 Tryd.underlying39 hi hz0 hz1 .i64 .i64 _ _ size rfl rfl rfl rfl (by rw [hz2]; omega) (by unfold maxLen; omega) HB1.out.size ?_; intro w2 hown2 hgrow2; have hb2 := Lib.hid (HB1.out.grown hgrow2 HB1.out.size (fun k hk => by cases hk)); have ho2 := Lib.hid hown2; have HOW2 := Lib.hid (HOW.out.kept hgrow2 (.inr (by intro e; cases e))); clear hown2 hgrow2)
  have HOY : Hid (w2.ownsRow w.heap.size 5 1 (.slice (some ⟨w1.heap.size, 0, none⟩) size size) size ((List.replicate size 0).map byteV)) := Lib.hid (by
    rw [List.map_replicate]; have h := ho2.out; rw [Nat.mul_one] at h; exact toList_madeCells_one (.int .u8 0) size ▸ h)
  obtain ⟨wz, hwz⟩ : ∃ wz, wz = w2.alloc (.cells #[.slice (some ⟨w0.heap.size, 0, none⟩) (kOf n) (kOf n), .slice (some ⟨w1.heap.size, 0, none⟩) size size] 82) := ⟨_, rfl⟩
  rw [← hwz]
  have hbz : Below w2.heap.size w2 wz := by rw [hwz]; exact (Below.refl _ _).alloc (Nat.le_refl _) _
  have hzz : wz.heap[w2.heap.size]? = some (.cells #[.slice (some ⟨w0.heap.size, 0, none⟩) (kOf n) (kOf n), .slice (some ⟨w1.heap.size, 0, none⟩) size size] 82 (0, 0)) := by rw [hwz]; exact heap_alloc_new w2 _
  have hzs : w2.heap.size < wz.heap.size := (Array.getElem?_eq_some_iff.1 hzz).1
  have HZZ := Lib.hid hzz
  have hg1 : w0.heap.size < w2.heap.size := (HOW2.out.lt _ rfl).2
  have hg2 : w1.heap.size < w2.heap.size := (HOY.out.lt _ rfl).2
  have HOK : Hid (EqOk n size (ws, List.replicate size 0)) := Lib.hid ⟨HPK.out.2.1, HPK.out.2.2, fun d hd => by simp only; rw [HPK.out.1]; simp [unitV]; omega, List.length_replicate .., Octets.replicate size⟩
  have HPR : Hid (proj n (longV ws (List.replicate size 0) n) = unitV c) := Lib.hid (by rw [longV_proj HOK.out.2.2.1]; exact HPK.out.1)
  refine (down_any (w0 := w) (w := wz) b kb n size f rv sv false _ _ _ _ ws (List.replicate size 0) HS.out HT.out (hb2.out.trans (hbz.mono hb2.out.size)) (owns_kept HOW2.out hbz) (owns_kept HOY.out hbz) HOK.out).mono ?_
  rintro e w4 ⟨x, y, hd, hp1, hp2, hb4, hfr, hres⟩
  have hX := hfr w2.heap.size hzs (by omega) (by omega)
  have hX1 : w4.cell? ⟨w2.heap.size, 1, none⟩ = some (.slice (some ⟨w1.heap.size, 0, none⟩) size size) := cell_of_heap (hX.trans HZZ.out) rfl
  have HD := Lib.hid hd
  have HP2 := Lib.hid hp2
  have HB4 := Lib.hid hb4
  have HST := Lib.hid HS.out.stair
  clear hwz hbz hzz hfr hX hp1 hp2 hb4 hd hg1 hg2 hzs HZZ
  rcases hres with ⟨rfl, hz⟩ | ⟨d, rfl, hdn, hfd, hld⟩
  · have HZ := Lib.hid hz
    clear hz
    go_wp2
    go_ret2
    have hl1 : x.length = ws.length := by rw [HPK.out.2.1]; exact HD.out.ok.1
    have hl2 : y.length = (List.replicate size 0).length := by rw [List.length_replicate]; exact HD.out.ok.2.2.2.1
    have hxy : xorW y (List.replicate size 0) = y := by
      apply ext_getD (xorW_length hl2)
      intro j _
      rw [xorW_getD hl2]
      simp [List.getD_eq_getElem?_getD, List.getElem?_replicate]
      split <;> simp
    refine ⟨HB4.out, .inr ⟨vadd (longV x y n) (longV ws (List.replicate size 0) n), _, ⟨HD.out.span, ?_⟩, rfl, ?_⟩⟩
    · rw [proj_add, HPR.out, proj_zero_of (fun d hd => by rw [longV_row hd, HZ.out]; rfl), vadd_comm, vadd_zero]
    · rw [longV_add hl1 hl2, hxy]
      have e : symV n size (longV (xorW x ws) y n) = y := by
        have := symV_long (row := xorW x ws) (n := n) (sym := y) HD.out.ok.2.2.2.2
        rwa [show y.length = size from HD.out.ok.2.2.2.1] at this
      rw [e]
      exact HP2.out
  · have HUN : Hid (¬ Sp ((stL (uF f n) n).map (proj n)) (unitV c)) := Lib.hid (by
      have := kind_fresh HST.out HD.out.span hdn (uF_none hfd) (longV_lead hdn hld)
      rwa [HPR.out] at this)
    clear hfd hld
    go_wp2_with fail
    refine (New_ans nameElValue 4 (by decide) _).mono ?_
    rintro e w5 ⟨E1, rfl, he1, hb5⟩
    have HE1 := Lib.hid he1
    have HB5 := Lib.hid (HB4.out.trans (hb5.mono HB4.out.size))
    obtain ⟨u, v, rfl⟩ := he1.some (by decide)
    clear he1 hb5
    go_wp2
    go_ret2
    exact ⟨HB5.out, .inl ⟨HUN.out, _, rfl, HE1.out⟩⟩
end Go.Proofs.YtnkkaggepokjeaaDoor
