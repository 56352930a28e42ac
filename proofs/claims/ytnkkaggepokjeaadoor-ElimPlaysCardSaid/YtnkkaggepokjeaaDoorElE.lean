/- Package elim: (*System).Add, of an equation of the system's. -/
import Derived.Test.YtnkkaggepokjeaaDoorElD
namespace Go.Proofs.YtnkkaggepokjeaaDoor
open Go.RowKit Go.Extern.Stop Go.Stop Go.Extern

def ElAddPost (w w' : World) (b kb n size : Nat) (f : Nat → Option Eqn) (l : Vec) (k : Nat) : Prop :=
  Touch b kb w w' ∧ k = kindV n (stL (uF f n) n) l ∧ ∃ f' rv' sv', SysM w' b kb n size f' rv' sv' (decide (k = 3)) ∧ (k = 1 → SpEq (stL (uF f' n) n) (stL (uF f n) n ++ [l]) ∧ cntF f' n = cntF f n + 1) ∧ (k ≠ 1 → f' = f)

set_option maxRecDepth 1000000 in
set_option maxHeartbeats 4000000 in
theorem elAdd_any {w : World} (b kb n size : Nat) (f : Nat → Option Eqn) (rv sv : Nat → Value) (v1 v2 : Value) (row sym : List Nat) (hS : SysM w b kb n size f rv sv false) (hT : Tab w)
    (h1 : ListAt wordV w v1 row) (h2 : ListAt byteV w v2 sym) (hok : EqOk n size (row, sym)) :
    Calls Tryd.prog 16 #[sysP b, v1, v2] w fun e w' => ∃ k : Nat, e = .returned (.tuple #[.int .i64 (k : Int), .nilIface]) ∧ ElAddPost w w' b kb n size f (longV row sym n) k := by
  obtain ⟨hn1, hn2, hs1, hs2⟩ := hS.num
  have hK64 : kOf n ≤ 64 := kOf_le hn2
  have hKp : 0 < kOf n := by unfold kOf; omega
  obtain ⟨hc0, hc1, hc2, hc3, hc4⟩ := hS.cells
  have hne := hS.ne
  have HS := Lib.hid hS
  have HT := Lib.hid hT
  have HOK := Lib.hid hok
  have HR := Lib.hid h1
  have HSY := Lib.hid h2
  have HWB : Hid (wholeB n row = true) := Lib.hid (wholeB_iff.2 ⟨hok.1, hok.2.2.1⟩)
  have hsl : sym.length = size := hok.2.2.2.1
  have HSL := Lib.hid hsl
  have HRL : Hid (row.length = kOf n) := Lib.hid hok.1
  have HC4 := Lib.hid hc4
  have HCN := Lib.hid (cntF_le f n)
  obtain ⟨a1, cp1, rfl, -, -, -⟩ := h1
  obtain ⟨a2, cp2, rfl, -, -, -⟩ := h2
  have hq : ((sym.length : Int) != (size : Int)) = false := by simp; omega
  have hq2 : ((sym.length : Int) == (size : Int)) = true := by simp; omega
  clear hS hT hok hsl
  go_enter Tryd.func16, Tryd.ntmps16
  go_wp2_with fail
  refine (over_any b false HC4.out).mono ?_
  rintro e w1 ⟨rfl, rfl⟩
  go_wp2_with fail
  refine (eformed_any _ row n HR.out HOK.out.2.1 hn2).mono ?_
  rintro e w1 ⟨rfl, rfl⟩
  rw [HWB.out]
  go_wp2_with fail
  refine (eqClone_any _ _ row sym HR.out HSY.out (by rw [HRL.out]; omega) (by rw [HSL.out]; omega)).mono ?_
  rintro e w1 ⟨p1, p2, rfl, ho1, ho2, -, -, hb1⟩
  rw [HRL.out] at ho1
  rw [HSL.out] at ho2
  have HO1 := Lib.hid ho1
  have HO2 := Lib.hid ho2
  have HB1 := Lib.hid hb1
  obtain ⟨g1, cg1, rfl⟩ := own_nonnil ho1 hKp
  obtain ⟨g2, cg2, rfl⟩ := own_nonnil ho2 (by omega)
  clear ho1 ho2 hb1
  go_wp2_with fail
  obtain ⟨wz, hwz⟩ : ∃ wz, wz = w1.alloc (.cells #[.slice (some ⟨g1, 0, none⟩) (kOf n) cg1, .slice (some ⟨g2, 0, none⟩) size cg2] 82) := ⟨_, rfl⟩
  rw [← hwz]
  have hbz : Below w1.heap.size w1 wz := by rw [hwz]; exact (Below.refl _ _).alloc (Nat.le_refl _) _
  have hzz : wz.heap[w1.heap.size]? = some (.cells #[.slice (some ⟨g1, 0, none⟩) (kOf n) cg1, .slice (some ⟨g2, 0, none⟩) size cg2] 82 (0, 0)) := by rw [hwz]; exact heap_alloc_new w1 _
  have hzs : w1.heap.size < wz.heap.size := (Array.getElem?_eq_some_iff.1 hzz).1
  have HZZ := Lib.hid hzz
  have hg1 := (HO1.out.lt g1 rfl).2
  have hg2 := (HO2.out.lt g2 rfl).2
  refine (down_any (w0 := w) (w := wz) b kb n size f rv sv false g1 cg1 g2 cg2 row sym HS.out HT.out (HB1.out.trans (hbz.mono HB1.out.size)) (owns_kept HO1.out hbz) (owns_kept HO2.out hbz) HOK.out).mono ?_
  rintro e w4 ⟨x, y, hd, hp1, hp2, hb4, hfr, hres⟩
  have hX := hfr w1.heap.size hzs (by omega) (by omega)
  have hX0 : w4.cell? ⟨w1.heap.size, 0, none⟩ = some (.slice (some ⟨g1, 0, none⟩) (kOf n) cg1) := cell_of_heap (hX.trans HZZ.out) rfl
  have hX1 : w4.cell? ⟨w1.heap.size, 1, none⟩ = some (.slice (some ⟨g2, 0, none⟩) size cg2) := cell_of_heap (hX.trans HZZ.out) rfl
  have HS4 := Lib.hid (HS.out.mono hb4)
  have HD := Lib.hid hd
  have HP1 := Lib.hid hp1
  have HP2 := Lib.hid hp2
  have HB4 := Lib.hid hb4
  have HST := Lib.hid HS.out.stair
  clear hwz hbz hzz hfr hX hp1 hp2 hb4 hd hg1 hg2 hzs HZZ HOK
  rcases hres with ⟨rfl, hz⟩ | ⟨c, rfl, hcn, hfc, hld⟩
  · cases hzb : zeroB y with
    | true =>
      have HZB := Lib.hid hzb
      have HZ := Lib.hid hz
      clear hzb hz
      go_wp2_with fail
      refine (Zero_any _ y (ListAt.of_owns HP2.out)).mono ?_
      rintro e w5 ⟨rfl, rfl⟩
      rw [HZB.out]
      go_wp2
      go_ret2
      have hy0 : ∀ j, y.getD j 0 = 0 := fun j => by
        by_cases hj : j < y.length
        · have := List.all_eq_true.1 HZB.out _ (List.getElem_mem hj)
          rw [List.getD_eq_getElem?_getD, List.getElem?_eq_getElem hj]
          simpa using this
        · simp [List.getD_eq_getElem?_getD, Nat.not_lt.1 hj]
      have hsp := HD.out.span
      rw [longV_zero HZ.out hy0, vadd_comm, vadd_zero] at hsp
      exact ⟨2, rfl, Touch.of HB4.out, (kindV_known hsp).symm, f, rv, sv, HS4.out, fun h => absurd h (by decide), fun _ => rfl⟩
    | false =>
      have HZB := Lib.hid hzb
      have HZ := Lib.hid hz
      have hf4 := frozen_of_heap (j := 4) HS4.out.obj
      have hc4' := HS4.out.cells.2.2.2.2
      clear hzb hz
      go_wp2_with fail
      refine (Zero_any _ y (ListAt.of_owns HP2.out)).mono ?_
      rintro e w5 ⟨rfl, rfl⟩
      rw [HZB.out]
      go_wp2
      go_ret2
      have hy0 : ∃ j, y.getD j 0 ≠ 0 := by
        apply Classical.byContradiction
        intro hno
        have : zeroB y = true := by
          unfold zeroB
          rw [List.all_eq_true]
          intro z hz
          obtain ⟨j, hj, rfl⟩ := List.getElem_of_mem hz
          have h1 : ¬ y.getD j 0 ≠ 0 := fun h => hno ⟨j, h⟩
          rw [List.getD_eq_getElem?_getD, List.getElem?_eq_getElem hj] at h1
          simpa using h1
        rw [this] at HZB
        exact Bool.noConfusion HZB.out
      obtain ⟨j, hj⟩ := hy0
      have hk3 : kindV n (stL (uF f n) n) (longV row sym n) = 3 := kindV_clash HST.out HD.out.span (fun c hc => by rw [longV_row hc, HZ.out]; rfl) (longV_ne HD.out.ok.2.2.2.2 hj)
      exact ⟨3, rfl, (Touch.of HB4.out).setCell (p := ⟨b, 4, none⟩) (.inl rfl) _, hk3.symm, f, rv, sv, HS4.out.clash, fun h => absurd h (by decide), fun _ => rfl⟩
  · obtain ⟨hc0, hc1, hc2, hc3, hc4⟩ := HS4.out.cells
    obtain ⟨hk0, hk1⟩ := HS4.out.kcell c hcn
    obtain ⟨cur, hkob⟩ := HS4.out.kobj
    have hf0 := frozen_of_heap (j := c * 2) hkob
    have hf1 := frozen_of_heap (j := c * 2 + 1) hkob
    have hf3 := frozen_of_heap (j := 3) HS4.out.obj
    have HFC := Lib.hid hfc
    have HLD := Lib.hid hld
    have hcI : (c : Int) < (n : Int) := by omega
    have hcI0 : (0 : Int) ≤ (c : Int) := by omega
    have hcnt := HCN.out
    clear hkob hfc hld
    generalize hcq : cntF f n = cq at *
    have hwr : IntKind.i64.wrap ((cq : Int) + 1) = (cq : Int) + 1 := IntWalk.i64_in _ (by omega)
    go_wp2_with fail
    go_region
    go_wp2
    go_ret2
    have hk1 : kindV n (stL (uF f n) n) (longV row sym n) = 1 := kindV_fresh HST.out HD.out.span hcn (uF_none HFC.out) (longV_lead hcn HLD.out)
    have hput := HS4.out.put (q := (x, y)) hcn HFC.out (ownsRow_base HP1.out (Nat.zero_le _)) (ownsRow_base HP2.out (Nat.zero_le _)) HD.out.ok HLD.out
    rw [hcq] at hput
    refine ⟨1, rfl, ?_, hk1.symm, putF f c (x, y), updV rv c (.slice (some ⟨g1, 0, none⟩) (kOf n) cg1), updV sv c (.slice (some ⟨g2, 0, none⟩) size cg2), ?_, fun _ => ⟨?_, ?_⟩, fun h => absurd rfl h⟩
    · exact (((Touch.of HB4.out).setCell (p := ⟨kb, c * 2, none⟩) (.inr rfl) _).setCell (p := ⟨kb, c * 2 + 1, none⟩) (.inr rfl) _).drew.setCell (p := ⟨b, 3, none⟩) (.inl rfl) _
    · exact hput.mono (Below.refl _ _).drew
    · rw [uF_put]
      exact stair_snoc HD.out.span hcn (uF_none HFC.out)
    · rw [cntF_put HFC.out hcn, hcq]
end Go.Proofs.YtnkkaggepokjeaaDoor
