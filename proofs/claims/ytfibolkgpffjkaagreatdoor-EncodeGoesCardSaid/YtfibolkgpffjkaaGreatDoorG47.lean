import Derived.Test.YtfibolkgpffjkaaGreatDoorG32
import Derived.Test.YtfibolkgpffjkaaGreatDoorG41
import Derived.Test.YtfibolkgpffjkaaGreatDoorG46
import Derived.BigQuiet

section
/- The twelfth layer's laws: EncodeGoes. -/
namespace Go.Proofs.YtfibolkgpffjkaaGreatDoor
open Go.RowKit Go.Extern.Stop Go.Stop Go.Extern

set_option maxRecDepth 1000000 in
set_option maxHeartbeats 20000000 in
theorem goes12 {w : World} (n0 : Int) (v : Value) (M : List (List Nat)) (f N : Int) (hv : MatAt byteV w v M) (ho : ∀ r ∈ M, Octets r) (hfi : I64 f) (hT : DgTab w) (hB : Tab w) :
    Calls Tryz.prog 7 #[.agg #[.int .i64 n0, v], .int .i64 f, .int .i64 N] w fun e w' => e = .returned (.bool true) ∧ Below w.heap.size w w' := by
  obtain ⟨w1, hw1, hb1, hby⟩ := blk_laid w n0 v
  have HW1 := Lib.hid hw1
  have HB1 := Lib.hid hb1
  have HBY := Lib.hid hby
  obtain ⟨y0, y1⟩ := hby.cells
  have HT := Lib.hid hT
  have HBT := Lib.hid hB
  have HAW : Hid (∀ V, Below w.heap.size w V → Calls Tryz.prog 17 #[] V fun e w' => e = .returned (.bool true) ∧ Below V.heap.size V w') := Lib.hid fun V hV => awake12 V (PairsAt.mono hT hV) (hB.mono hV)
  have HFIT := Lib.hid (fit12 (w := w1) n0 v M (hv.mono hb1) ho)
  obtain ⟨av, cv, rfl, -, -, -⟩ := hv.opens
  generalize M.length = ml at *
  clear hw1 hb1 hby hT hB hv ho
  go_enter Tryz.func7, Tryz.ntmps7
  go_upto_region 1 with fail
  rw [← HW1.out]
  go_wp2_with fail
  refine HFIT.out.mono ?_
  rintro e w2 ⟨size, u1, S, rfl, hs1, hs2, hl1, hl2, hok, hsy, hb2⟩
  have hy2 := HBY.out.mono hb2
  have hb02 := HB1.out.trans (hb2.mono HB1.out.size)
  have hgl := hy2.lt
  obtain ⟨vs, hvs, -⟩ := id hsy
  obtain ⟨a1, q1, rfl, -, hg1⟩ := own_open hvs
  obtain ⟨g1, rfl⟩ := hg1 (by omega)
  obtain ⟨k, hk⟩ : ∃ k, S.length = k := ⟨_, rfl⟩
  rw [hk] at hl1 hl2 hsy ⊢
  obtain ⟨w3, hw3⟩ : ∃ w3, w3 = (w2.setCell ⟨w.heap.size, 0, none⟩ (.int .i64 (size : Int))).setCell ⟨w.heap.size, 1, none⟩ (.slice (some ⟨g1, 0, none⟩) k q1) := ⟨_, rfl⟩
  have HW3 := Lib.hid hw3
  have HY3 : Hid (BlkBox w3 w.heap.size size (.slice (some ⟨g1, 0, none⟩) k q1)) := Lib.hid (by rw [hw3]; exact hy2.store _ _)
  have HS3 : Hid (MatAt byteV w3 (.slice (some ⟨g1, 0, none⟩) k q1) S) := Lib.hid (by
    rw [hw3]
    have h1 := hsy.set hy2 0 (.int .i64 (size : Int))
    exact (h1.set (heap_setCell_at (j := 0) (u := .int .i64 (size : Int)) hy2) 1 (.slice (some ⟨g1, 0, none⟩) k q1)).at)
  have HB3 : Hid (Below w.heap.size w w3) := Lib.hid (by
    rw [hw3]
    exact (hb02.setCell (p := ⟨w.heap.size, 0, none⟩) (Nat.le_refl _) _).setCell (p := ⟨w.heap.size, 1, none⟩) (Nat.le_refl _) _)
  have HK := Lib.hid hk
  have HOK := Lib.hid hok
  obtain ⟨z0, z1⟩ := hy2.cells
  obtain ⟨f0, f1⟩ := hy2.free
  clear hw3 hsy hvs hok hb2 hb02 hk hy2 hg1 y0 y1
  go_upto_region 2 with fail
  rw [← HW3.out]
  obtain ⟨y0, y1⟩ := HY3.out.cells
  clear z0 z1 f0 f1
  obtain ⟨at0, hf, hat⟩ : ∃ at0 : Nat, max f 0 = (at0 : Int) ∧ at0 ≤ 9223372036854775807 := ⟨(max f 0).toNat, by omega, by omega⟩
  obtain ⟨m, hm, hm20⟩ : ∃ m : Nat, wrap64 ((IntKind.u64.wrap N).tmod 20) = (m : Int) ∧ m < 20 := by
    have hw : 0 ≤ IntKind.u64.wrap N := by rw [IntKind.wrap_u64]; omega
    have e : (IntKind.u64.wrap N).tmod 20 = (IntKind.u64.wrap N) % 20 := Int.tmod_eq_emod_of_nonneg hw
    have h0 : 0 ≤ (IntKind.u64.wrap N) % 20 := Int.emod_nonneg _ (by decide)
    have h4 : (IntKind.u64.wrap N) % 20 < 20 := Int.emod_lt_of_pos _ (by decide)
    rw [e, IntWalk.wrap64_in _ (by omega)]
    exact ⟨((IntKind.u64.wrap N) % 20).toNat, by omega, by omega⟩
  have HF := Lib.hid hf
  have HM := Lib.hid hm
  clear hf hm
  have HNW := Lib.hid (EnNew_ok k size _ S HS3.out HK.out hl1 (by omega) hs1 (by omega) HOK.out (PairsAt.mono HT.out HB3.out) (HBT.out.mono HB3.out))
  go_wp2_with fail
  refine HNW.out.mono ?_
  rintro e w4 ⟨g, s, h, l, p, sd, vm, V, rfl, hen, hb4⟩
  have HEN := Lib.hid hen
  have HY4 := Lib.hid (HY3.out.mono hb4)
  have HB34 := Lib.hid hb4
  have HB4 := Lib.hid (HB3.out.trans (hb4.mono HB3.out.size))
  have HT4 := Lib.hid (PairsAt.mono HT.out HB4.out)
  clear hen hb4 y0 y1
  go_wp2_with fail
  refine ((callsIn_wide (n := 3)).1 (each_in 3 _ _ _)).mono ?_
  rintro e w5 ⟨rfl, hw5⟩
  obtain ⟨b1, b2⟩ := each_boxes (some ⟨g, 0, none⟩) f w4
  rw [← hw5] at b1 b2
  have hb5 : Below w4.heap.size w4 w5 := by
    rw [hw5]
    exact ((Below.refl _ w4).alloc (Nat.le_refl _) _).alloc (by simp) _
  have HB5 := Lib.hid (HB4.out.trans (hb5.mono HB4.out.size))
  have HE5 := Lib.hid (HEN.out.mono hb5)
  have HT5 := Lib.hid (PairsAt.mono HT4.out hb5)
  have H1 := Lib.hid b1
  have H2 := Lib.hid b2
  obtain ⟨be, hbe⟩ : ∃ be, w4.heap.size = be := ⟨_, rfl⟩
  obtain ⟨bf, hbf⟩ : ∃ bf, w4.heap.size + 1 = bf := ⟨_, rfl⟩
  rw [hbf] at H2 ⊢
  rw [hbe] at H1 ⊢
  clear b1 b2 hb5 hw5 hbe hbf
  obtain ⟨at1, hat1⟩ : ∃ at1, at1 = min at0 65536 := ⟨_, rfl⟩
  have HG1 := Lib.hid (goes_any HE5.out HT5.out f at0 HF.out hat be bf H1.out H2.out m hm20 at1 hat1)
  have HA1 := Lib.hid hat1
  clear hat1
  go_wp2_with fail
  rw [eql_seq_nil]
  go_wp2_with fail
  rw [HM.out, HF.out]
  refine HG1.out.mono ?_
  rintro e w6 ⟨rfl, hb6⟩
  obtain ⟨r, hr⟩ : ∃ r, at1 + min m (65536 - at1) = r := ⟨_, rfl⟩
  have HR := Lib.hid hr
  have HE6 := Lib.hid (HE5.out.mono hb6)
  have HT6 := Lib.hid (PairsAt.mono HT5.out hb6)
  have HB6 := Lib.hid (HB5.out.trans (hb6.mono HB5.out.size))
  have HG2 := Lib.hid (goes_any HE6.out HT6.out f at0 HF.out hat be bf ((hb6.block _ H1.out.lt).trans H1.out) ((hb6.block _ H2.out.lt).trans H2.out) m hm20 at1 HA1.out)
  rw [hr] at HG2 ⊢
  clear hr hb6
  go_wp2_with fail
  rw [HF.out]
  refine HG2.out.mono ?_
  rintro e w7 ⟨rfl, hb7⟩
  have HB7 := Lib.hid (HB6.out.trans (hb7.mono HB6.out.size))
  have hnn : ((r : Int) != (r : Int)) = false := by simp
  have hf := HF.out
  clear hb7 HG1 HG2
  by_cases hbig : 65536 ≤ r
  · have d1 : decide ((65536 : Int) ≤ (r : Int)) = true := decide_eq_true (by omega)
    go_wp2_with fail
    refine (HAW.out _ HB7.out).mono ?_
    rintro e wz ⟨rfl, hbz⟩
    have HBZ := Lib.hid (HB7.out.trans (hbz.mono HB7.out.size))
    clear hbz
    go_wp2
    go_ret
    exact ⟨rfl, HBZ.out⟩
  · have d1 : decide ((65536 : Int) ≤ (r : Int)) = false := decide_eq_false (by omega)
    have hw : IntKind.i64.wrap ((at0 : Int) + (m : Int)) = (r : Int) := by
      have h1 := HR.out
      have h2 := HA1.out
      rw [IntWalk.i64_in _ (by omega)]
      omega
    have hrr : ((r : Int) == (r : Int)) = true := by simp
    go_wp2_with fail
    refine (HAW.out _ HB7.out).mono ?_
    rintro e wz ⟨rfl, hbz⟩
    have HBZ := Lib.hid (HB7.out.trans (hbz.mono HB7.out.size))
    clear hbz
    go_wp2
    go_ret
    exact ⟨rfl, HBZ.out⟩
end Go.Proofs.YtfibolkgpffjkaaGreatDoor
end
