import Derived.Test.YtfibolkgpffjkaaGreatDoorG32
import Derived.Test.YtfibolkgpffjkaaGreatDoorG41
import Derived.Test.YtfibolkgpffjkaaGreatDoorG40
import Derived.BigQuiet

section
/- The twelfth layer's laws: EncodeSomes. -/
namespace Go.Proofs.YtfibolkgpffjkaaGreatDoor
open Go.RowKit Go.Extern.Stop Go.Stop Go.Extern

theorem Some_all {w : World} {B g k s h l p sd size : Nat} {vm : Value} {V M : List (List Nat)} (hE : EncAt w B g k s h l p sd size vm V M) (hT : DgTab w) (f : Int) (at0 : Nat) (hf : max f 0 = (at0 : Int)) (hat : at0 ≤ 9223372036854775807) (z : Int) (hz : z ≤ 100000) :
    Calls Tryz.prog 23 #[.pointer (some ⟨g, 0, none⟩), .int .i64 f, .int .i64 z] w fun e w' => ∃ (v : Value) (q : Nat), e = .returned v ∧ MatAt byteV w' v (symsE l p sd size V at0 q) ∧ (q : Int) = max 0 (min z (65536 - min (at0 : Int) 65536)) ∧ q ≤ 100000 ∧ (0 < q → at0 + q ≤ 65536) ∧ Below w.heap.size w w' := by
  by_cases h1 : z < 1
  · refine (Some_few (some ⟨g, 0, none⟩) f z h1).mono ?_
    rintro e w' ⟨rfl, hb⟩
    exact ⟨_, 0, rfl, MatAt.nil _ _, by omega, by omega, by omega, hb⟩
  · obtain ⟨n, rfl⟩ : ∃ n : Nat, z = (n : Int) := ⟨z.toNat, by omega⟩
    refine (Some_any hE hT f at0 hf hat n (by omega) (by omega)).mono ?_
    rintro e w' ⟨v, B1, rfl, hm, -, hb⟩
    exact ⟨v, _, rfl, hm.own.at, by omega, by omega, by omega, hb⟩

set_option maxRecDepth 1000000 in
set_option maxHeartbeats 20000000 in
theorem somes12 {w : World} (n0 : Int) (v : Value) (M : List (List Nat)) (f N : Int) (hv : MatAt byteV w v M) (ho : ∀ r ∈ M, Octets r) (hfi : I64 f) (hT : DgTab w) (hB : Tab w) :
    Calls Tryz.prog 8 #[.agg #[.int .i64 n0, v], .int .i64 f, .int .i64 N] w fun e w' => e = .returned (.bool true) ∧ Below w.heap.size w w' := by
  obtain ⟨w1, hw1, hb1, hby⟩ := blk_laid w n0 v
  have HW1 := Lib.hid hw1
  have HB1 := Lib.hid hb1
  have HBY := Lib.hid hby
  obtain ⟨y0, y1⟩ := hby.cells
  have HT := Lib.hid hT
  have HBT := Lib.hid hB
  have HAW : Hid (∀ V, Below w.heap.size w V → Calls Tryz.prog 17 #[] V fun e w' => e = .returned (.bool true) ∧ Below V.heap.size V w') := Lib.hid fun V hV => awake12 V (PairsAt.mono hT hV) (hB.mono hV)
  have HFIT := Lib.hid (fit12 (w := w1) n0 v M (hv.mono hb1) ho)
  obtain ⟨av, cv, rfl, -, -, -⟩ := hv.opens
  generalize M.length = ml at *
  clear hw1 hb1 hby hT hB hv ho
  go_enter Tryz.func8, Tryz.ntmps8
  go_upto_region 1 with fail
  rw [← HW1.out]
  go_wp2_with fail
  refine HFIT.out.mono ?_
  rintro e w2 ⟨size, u1, S, rfl, hs1, hs2, hl1, hl2, hok, hsy, hb2⟩
  have hy2 := HBY.out.mono hb2
  have hb02 := HB1.out.trans (hb2.mono HB1.out.size)
  have hgl := hy2.lt
  obtain ⟨vs, hvs, -⟩ := id hsy
  obtain ⟨a1, q1, rfl, -, hg1⟩ := own_open hvs
  obtain ⟨g1, rfl⟩ := hg1 (by omega)
  obtain ⟨k, hk⟩ : ∃ k, S.length = k := ⟨_, rfl⟩
  rw [hk] at hl1 hl2 hsy ⊢
  obtain ⟨w3, hw3⟩ : ∃ w3, w3 = (w2.setCell ⟨w.heap.size, 0, none⟩ (.int .i64 (size : Int))).setCell ⟨w.heap.size, 1, none⟩ (.slice (some ⟨g1, 0, none⟩) k q1) := ⟨_, rfl⟩
  have HW3 := Lib.hid hw3
  have HY3 : Hid (BlkBox w3 w.heap.size size (.slice (some ⟨g1, 0, none⟩) k q1)) := Lib.hid (by rw [hw3]; exact hy2.store _ _)
  have HS3 : Hid (MatAt byteV w3 (.slice (some ⟨g1, 0, none⟩) k q1) S) := Lib.hid (by
    rw [hw3]
    have h1 := hsy.set hy2 0 (.int .i64 (size : Int))
    exact (h1.set (heap_setCell_at (j := 0) (u := .int .i64 (size : Int)) hy2) 1 (.slice (some ⟨g1, 0, none⟩) k q1)).at)
  have HB3 : Hid (Below w.heap.size w w3) := Lib.hid (by
    rw [hw3]
    exact (hb02.setCell (p := ⟨w.heap.size, 0, none⟩) (Nat.le_refl _) _).setCell (p := ⟨w.heap.size, 1, none⟩) (Nat.le_refl _) _)
  have HK := Lib.hid hk
  have HOK := Lib.hid hok
  obtain ⟨z0, z1⟩ := hy2.cells
  obtain ⟨f0, f1⟩ := hy2.free
  clear hw3 hsy hvs hok hb2 hb02 hk hy2 hg1 y0 y1
  go_upto_region 2 with fail
  rw [← HW3.out]
  obtain ⟨y0, y1⟩ := HY3.out.cells
  clear z0 z1 f0 f1
  obtain ⟨at0, hf, hat⟩ : ∃ at0 : Nat, max f 0 = (at0 : Int) ∧ at0 ≤ 9223372036854775807 := ⟨(max f 0).toNat, by omega, by omega⟩
  obtain ⟨m, hm, hm20⟩ : ∃ m : Nat, wrap64 ((IntKind.u64.wrap N).tmod 20) = (m : Int) ∧ m < 20 := by
    have hw : 0 ≤ IntKind.u64.wrap N := by rw [IntKind.wrap_u64]; omega
    have e : (IntKind.u64.wrap N).tmod 20 = (IntKind.u64.wrap N) % 20 := Int.tmod_eq_emod_of_nonneg hw
    have h0 : 0 ≤ (IntKind.u64.wrap N) % 20 := Int.emod_nonneg _ (by decide)
    have h4 : (IntKind.u64.wrap N) % 20 < 20 := Int.emod_lt_of_pos _ (by decide)
    rw [e, IntWalk.wrap64_in _ (by omega)]
    exact ⟨((IntKind.u64.wrap N) % 20).toNat, by omega, by omega⟩
  obtain ⟨z, hz, hz2⟩ : ∃ z : Int, wrap64 ((m : Int) - 1) = z ∧ z = (m : Int) - 1 := ⟨_, IntWalk.wrap64_in _ (by omega), rfl⟩
  have hz3 : IntKind.i64.wrap ((m : Int) - 1) = z := by rw [IntWalk.i64_in _ (by omega)]; exact hz2.symm
  have HZ := Lib.hid hz2
  have HF := Lib.hid hf
  clear hz2
  have HNW := Lib.hid (EnNew_ok k size _ S HS3.out HK.out hl1 (by omega) hs1 (by omega) HOK.out (PairsAt.mono HT.out HB3.out) (HBT.out.mono HB3.out))
  go_wp2_with fail
  refine HNW.out.mono ?_
  rintro e w4 ⟨g, s, h, l, p, sd, vm, V, rfl, hen, hb4⟩
  have HEN := Lib.hid hen
  have HY4 := Lib.hid (HY3.out.mono hb4)
  have HB34 := Lib.hid hb4
  have HB4 := Lib.hid (HB3.out.trans (hb4.mono HB3.out.size))
  have HT4 := Lib.hid (PairsAt.mono HT.out HB4.out)
  clear hen hb4 y0 y1
  have HSO := Lib.hid (Some_all HEN.out HT4.out f at0 HF.out hat z (by have := HZ.out; omega))
  go_wp2_with fail
  refine HSO.out.mono ?_
  rintro e w5 ⟨v5, q, rfl, hm5, hq1, hq2, hq3, hb5⟩
  have HM5 := Lib.hid hm5
  have HB5 := Lib.hid (HB4.out.trans (hb5.mono HB4.out.size))
  have HEN5 := Lib.hid (HEN.out.mono hb5)
  have HT5 := Lib.hid (PairsAt.mono HT4.out hb5)
  have HQ3 := Lib.hid hq3
  obtain ⟨at1, hat1, hat2⟩ : ∃ at1 : Nat, min (at0 : Int) 65536 = (at1 : Int) ∧ at1 ≤ 65536 := ⟨min at0 65536, by omega, by omega⟩
  have HA1 := Lib.hid hat1
  have ha3 : IntKind.i64.wrap (65536 - (at1 : Int)) = 65536 - (at1 : Int) := IntWalk.i64_in _ (by omega)
  obtain ⟨y1, hy1⟩ : ∃ y1, min z (65536 - (at1 : Int)) = y1 := ⟨_, rfl⟩
  have hy2 : max 0 y1 = (q : Int) := by rw [hq1, ← hy1, hat1]
  have hqn : ((q : Int) != (q : Int)) = false := by simp
  obtain ⟨a5, c5, rfl, -, -, -⟩ := hm5.opens
  rw [symsE_length] at HM5 ⊢
  clear hm5 hb5 hq1 hq3
  go_wp2_with fail
  clear hy1 hy2 ha3 hat1 hqn hm hz hz3
  go_loopw [11] (fun i wr => ∃ j : Nat, j ≤ q ∧ i = .int .i64 j ∧ Below w5.heap.size w5 wr) (fun i _ => q - (intOf i).toNat)
  case atStart => exact ⟨0, Nat.zero_le _, rfl, Below.refl _ _⟩
  case round =>
    obtain ⟨j, hj, rfl, hbel⟩ := hrel
    have HBL := Lib.hid hbel
    by_cases hjq : j < q
    · obtain ⟨es, hes, hes2, hes3⟩ : ∃ es : Nat, IntKind.i64.wrap ((at1 : Int) + (j : Int)) = (es : Int) ∧ es = at0 + j ∧ es < 65536 := by
        have h3 := HQ3.out (by omega)
        have h4 := HA1.out
        exact ⟨at0 + j, by rw [IntWalk.i64_in _ (by omega)]; omega, rfl, by omega⟩
      have HES := Lib.hid hes2
      have HSY := Lib.hid (EnSym_ok (HEN5.out.mono hbel) es hes3 (PairsAt.mono HT5.out hbel))
      clear hbel hes2
      go_wp2_with fail
      refine HSY.out.mono ?_
      rintro e w6 ⟨v6, rfl, ho6, hb6⟩
      have hb56 := HBL.out.trans (hb6.mono HBL.out.size)
      have HB6 := Lib.hid hb56
      have hs6 := ListAt.of_owns (n := (symE l p sd size V es).length) (f := byteV) (l := symE l p sd size V es) (by rw [symE_length]; exact ho6)
      obtain ⟨bl, ol, hle, xl, hxl, hll⟩ := (HM5.out.mono hb56).rowAt (i := j) (by rw [symsE_length]; exact hjq)
      subst hle
      rw [symsE_getD hjq, ← HES.out] at hll
      have hk1 : ∀ nd, (convert 38 9 v6).run Tryz.prog (w6.drewN nd) = .ok (.string (strN (symE l p sd size V es))) (w6.drewN nd) := fun nd => (hs6.mono (below_draws (Below.refl _ _) nd)).str
      have hk2 : ∀ nd, (convert 38 9 xl).run Tryz.prog (w6.drewN nd) = .ok (.string (strN (symE l p sd size V es))) (w6.drewN nd) := fun nd => (hll.mono (below_draws (Below.refl _ _) nd)).str
      obtain ⟨a6, c6, rfl, -, -⟩ := own_open ho6
      obtain ⟨xa, xc, rfl, -, -, -⟩ := hll
      clear ho6 hb6 hb56 hs6
      generalize strN (symE l p sd size V es) = str at *
      generalize (symE l p sd size V es).length = ll at *
      go_wp2
      go_quiet (fail)
      go_wp2
      go_roundw
      case rel => exact ⟨j + 1, by omega, by go_num, below_draws HB6.out _⟩
      case measure => simp [intOf]; omega
    · have HBW := Lib.hid (HB5.out.trans (hbel.mono HB5.out.size))
      clear hbel
      go_wp2_with fail
      refine (HAW.out _ HBW.out).mono ?_
      rintro e wz ⟨rfl, hbz⟩
      have HBZ := Lib.hid (HBW.out.trans (hbz.mono HBW.out.size))
      clear hbz
      go_wp2
      go_ret
      exact ⟨rfl, HBZ.out⟩
end Go.Proofs.YtfibolkgpffjkaaGreatDoor
end
