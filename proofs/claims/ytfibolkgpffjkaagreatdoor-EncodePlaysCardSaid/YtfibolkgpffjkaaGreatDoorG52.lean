import Derived.Test.YtfibolkgpffjkaaGreatDoorG17
import Derived.Test.YtfibolkgpffjkaaGreatDoorG20
import Derived.Test.YtfibolkgpffjkaaGreatDoorG21

section
/- Package system: drawn, Rows. -/
namespace Go.Proofs.YtfibolkgpffjkaaGreatDoor
open Go.RowKit Go.Extern.Stop Go.Stop Go.Extern

def nameSRows : ByteArray := ⟨#[115, 121, 115, 116, 101, 109, 46, 82, 111, 119, 115]⟩
set_option maxRecDepth 1000000 in
set_option maxHeartbeats 4000000 in
theorem drawn_ok {w : World} (k s h l p seed esi : Nat) (H : OfP k s h l p) (hk1 : 1 ≤ k) (hk2 : k ≤ 128) (hs : seed < 65536) (he : esi < 65536) (hT : DgTab w) :
    Calls Tryz.prog 73 #[parV k s h l p, .int .i64 (seed : Int), .int .i64 (esi : Int)] w fun e w' => ∃ a c, e = .returned (.tuple #[.slice a (kOf l) c, .nilIface]) ∧ w'.ownsRow w.heap.size 179 1 (.slice a (kOf l) c) (kOf l) ((packR l (rowE l p seed esi)).map wordV) ∧ Below w.heap.size w w' := by
  obtain ⟨b1, b2, b3, b4, b5, b6, b7⟩ := H.bounds hk1 hk2
  obtain ⟨w0, hw0, hb0, hbx⟩ := par_laid w k s h l p
  have HW0 := Lib.hid hw0
  have HB0 := Lib.hid hb0
  have HBX := Lib.hid hbx
  have HT := Lib.hid (PairsAt.mono hT hb0)
  obtain ⟨c0, c1, c2, c3, c4⟩ := hbx.cells
  have HR : Hid (∀ V, DgTab V → Calls Tryz.prog 33 #[.agg #[.int .i64 (k : Int), .int .i64 (s : Int), .int .i64 (h : Int), .int .i64 (l : Int), .int .i64 (p : Int)], .int .i64 (seed : Int), .int .i64 (esi : Int)] V fun e w' => ∃ v, e = .returned (.tuple #[v, .nilIface]) ∧ ListAt colV w' v (rowE l p seed esi) ∧ Below V.heap.size V w') := Lib.hid fun V hV => by
    refine (Row_ok k s h l p seed esi H hk1 hk2 hs he hV).mono ?_
    rintro e w' ⟨v, W, rfl, h1, h2, h3⟩
    refine ⟨v, rfl, ?_, h3⟩
    unfold rowE
    rw [walkE_eq h1]
    exact h2.back
  have HN : Hid ((∀ c ∈ rowE l p seed esi, c < l) ∧ (rowE l p seed esi).Nodup) := Lib.hid ⟨rowE_lt, rowE_nodup _ _ _ _⟩
  have hls : l ≤ 4096 := by omega
  clear hw0 hb0 hbx H hT b1 b2 b3 b4 b5 b6 b7 hk1 hk2 hs he
  generalize rowE l p seed esi = R at *
  unfold parV parC
  go_enter Tryz.func73, Tryz.ntmps73
  go_upto_region 1 with fail
  rw [← HW0.out]
  go_wp2_with fail
  refine (HR.out _ HT.out).mono ?_
  rintro e w1 ⟨v, rfl, hv, hb1⟩
  have HB1 := Lib.hid (HB0.out.trans (hb1.mono HB0.out.size))
  have HPK := Lib.hid (Pack_row v R l hv hls HN.out.1 HN.out.2)
  clear c0 c1 c2 c3 c4
  obtain ⟨c0, c1, c2, c3, c4⟩ := (HBX.out.mono hb1).cells
  have hsz := HB1.out.size
  clear hv hb1
  go_wp2_with fail
  refine HPK.out.mono ?_
  rintro e w2 ⟨rfl, ho, hb2⟩
  have HO := Lib.hid ho
  have HB2 := Lib.hid (HB1.out.trans (hb2.mono hsz))
  clear ho hb2
  go_wp2
  go_ret2
  exact ⟨_, _, rfl, ownsRow_base HO.out hsz, HB2.out⟩

theorem takeA_succ {k s h l p seed : Nat} {ns : List Nat} {j : Nat} (hj : j < ns.length) : packL l (rowsA k s h l p seed (ns.take (j + 1))) = packL l (rowsA k s h l p seed (ns.take j)) ++ [packR l (rowE l p seed (ns.getD j 0))] := by
  rw [List.take_succ_eq_append_getElem hj, rowsA_snoc, packL_append]
  simp [packL, List.getD_eq_getElem?_getD, hj]
theorem packA_len {k s h l p seed : Nat} {ns : List Nat} {j : Nat} (hj : j ≤ ns.length) : (packL l (rowsA k s h l p seed (ns.take j))).length = s + h + j := by
  rw [packL_length, rowsA_length, List.length_take]
  omega

theorem rankA_words {k s h l p seed : Nat} {ns : List Nat} (hl : l = k + s + h) : rk (vecs (packL l (rowsA k s h l p seed ns))) = rankA k s h l p seed ns := by
  rw [vecs_packL fun r hr => (rowsA_in hl r hr).1]
  rfl
theorem rowsA_matok {k s h l p seed : Nat} {ns : List Nat} (hl : l = k + s + h) (h1 : l ≤ 4096) (h2 : s + h + ns.length ≤ 4096) : MatOk (packL l (rowsA k s h l p seed ns)) l :=
  packL_ok h1 (by rw [rowsA_length]; exact h2) fun r hr => (rowsA_in hl r hr).1
end Go.Proofs.YtfibolkgpffjkaaGreatDoor
end
