import Derived.Test.YtkhdjjcflbdegaaGreatDoorG17
import Derived.Test.YtkhdjjcflbdegaaGreatDoorG20
import Derived.Test.YtkhdjjcflbdegaaGreatDoorG21

section
/- Package system: drawn, Rows. -/
namespace Go.Proofs.YtkhdjjcflbdegaaGreatDoor
open Go.RowKit Go.Extern.Stop Go.Stop Go.Extern

def nameSRows : ByteArray := ⟨#[115, 121, 115, 116, 101, 109, 46, 82, 111, 119, 115]⟩
set_option maxRecDepth 1000000 in
set_option maxHeartbeats 4000000 in
theorem drawn_ok {w : World} (k s h l p seed esi : Nat) (H : OfP k s h l p) (hk1 : 1 ≤ k) (hk2 : k ≤ 128) (hs : seed < 65536) (he : esi < 65536) (hT : DgTab w) :
    Calls Tryz.prog 64 #[parV k s h l p, .int .i64 (seed : Int), .int .i64 (esi : Int)] w fun e w' => ∃ a c, e = .returned (.tuple #[.slice a (kOf l) c, .nilIface]) ∧ w'.ownsRow w.heap.size 163 1 (.slice a (kOf l) c) (kOf l) ((packR l (rowE l p seed esi)).map wordV) ∧ Below w.heap.size w w' := by
  obtain ⟨b1, b2, b3, b4, b5, b6, b7⟩ := H.bounds hk1 hk2
  obtain ⟨w0, hw0, hb0, hbx⟩ := par_laid w k s h l p
  have HW0 := Lib.hid hw0
  have HB0 := Lib.hid hb0
  have HBX := Lib.hid hbx
  have HT := Lib.hid (PairsAt.mono hT hb0)
  obtain ⟨c0, c1, c2, c3, c4⟩ := hbx.cells
  have HR : Hid (∀ V, DgTab V → Calls Tryz.prog 82 #[.agg #[.int .i64 (k : Int), .int .i64 (s : Int), .int .i64 (h : Int), .int .i64 (l : Int), .int .i64 (p : Int)], .int .i64 (seed : Int), .int .i64 (esi : Int)] V fun e w' => ∃ v, e = .returned (.tuple #[v, .nilIface]) ∧ ListAt colV w' v (rowE l p seed esi) ∧ Below V.heap.size V w') := Lib.hid fun V hV => by
    refine (Row_ok k s h l p seed esi H hk1 hk2 hs he hV).mono ?_
    rintro e w' ⟨v, W, rfl, h1, h2, h3⟩
    refine ⟨v, rfl, ?_, h3⟩
    unfold rowE
    rw [walkE_eq h1]
    exact h2.back
  have HN : Hid ((∀ c ∈ rowE l p seed esi, c < l) ∧ (rowE l p seed esi).Nodup) := Lib.hid ⟨rowE_lt, rowE_nodup _ _ _ _⟩
  have hls : l ≤ 4096 := by omega
  clear hw0 hb0 hbx H hT b1 b2 b3 b4 b5 b6 b7 hk1 hk2 hs he
  generalize rowE l p seed esi = R at *
  unfold parV parC
  go_enter Tryz.func64, Tryz.ntmps64
  go_upto_region 1 with fail
  rw [← HW0.out]
  go_wp2_with fail
  refine (HR.out _ HT.out).mono ?_
  rintro e w1 ⟨v, rfl, hv, hb1⟩
  have HB1 := Lib.hid (HB0.out.trans (hb1.mono HB0.out.size))
  have HPK := Lib.hid (Pack_row v R l hv hls HN.out.1 HN.out.2)
  clear c0 c1 c2 c3 c4
  obtain ⟨c0, c1, c2, c3, c4⟩ := (HBX.out.mono hb1).cells
  have hsz := HB1.out.size
  clear hv hb1
  go_wp2_with fail
  refine HPK.out.mono ?_
  rintro e w2 ⟨rfl, ho, hb2⟩
  have HO := Lib.hid ho
  have HB2 := Lib.hid (HB1.out.trans (hb2.mono hsz))
  clear ho hb2
  go_wp2
  go_ret2
  exact ⟨_, _, rfl, ownsRow_base HO.out hsz, HB2.out⟩

theorem takeA_succ {k s h l p seed : Nat} {ns : List Nat} {j : Nat} (hj : j < ns.length) : packL l (rowsA k s h l p seed (ns.take (j + 1))) = packL l (rowsA k s h l p seed (ns.take j)) ++ [packR l (rowE l p seed (ns.getD j 0))] := by
  rw [List.take_succ_eq_append_getElem hj, rowsA_snoc, packL_append]
  simp [packL, List.getD_eq_getElem?_getD, hj]
theorem packA_len {k s h l p seed : Nat} {ns : List Nat} {j : Nat} (hj : j ≤ ns.length) : (packL l (rowsA k s h l p seed (ns.take j))).length = s + h + j := by
  rw [packL_length, rowsA_length, List.length_take]
  omega

set_option maxRecDepth 1000000 in
set_option maxHeartbeats 4000000 in
theorem Rows_ok {w : World} (k s h l p seed : Nat) (v : Value) (ns : List Nat) (H : OfP k s h l p) (hk1 : 1 ≤ k) (hk2 : k ≤ 128) (hs : seed < 65536) (hv : ListAt colV w v ns) (he : ∀ e ∈ ns, e < 65536) (hl : ns.length ≤ 4096) (hT : DgTab w) :
    Calls Tryz.prog 34 #[parV k s h l p, .int .i64 (seed : Int), v] w fun e w' => ∃ v', e = .returned (.tuple #[v', .nilIface]) ∧ MatFresh wordV 163 w.heap.size 79 w' v' (packL l (rowsA k s h l p seed ns)) ∧ Below w.heap.size w w' := by
  obtain ⟨i0, hi, hz0, hz1, hz2⟩ := info_parts info_row
  obtain ⟨b1, b2, b3, b4, b5, b6, b7⟩ := H.bounds hk1 hk2
  obtain ⟨w0, hw0, hb0, hbx⟩ := par_laid w k s h l p
  have HW0 := Lib.hid hw0
  have HB0 := Lib.hid hb0
  have HBX := Lib.hid hbx
  have HT := Lib.hid (PairsAt.mono hT hb0)
  have HV := Lib.hid (hv.mono hb0)
  obtain ⟨c0, c1, c2, c3, c4⟩ := hbx.cells
  have hck : checkR k s h l p seed (ns.map Int.ofNat) = 0 := by
    rw [checkR_rest (by
      rintro (hn | hn | hn)
      · exact hn ⟨k, s, h, l, p, rfl, rfl, rfl, rfl, rfl, hk1, hk2, H⟩
      · omega
      · omega) (fun j hj => by
      rw [List.length_map] at hj
      have := he ns[j] (List.getElem_mem hj)
      have e : (ns.map Int.ofNat).getD j 0 = (ns[j] : Int) := by simp [List.getD_eq_getElem?_getD, hj]
      rw [e]
      omega), if_neg (by rw [List.length_map]; omega)]
  have HR : Hid (∀ V, DgTab V → ListAt colV V v ns → Calls Tryz.prog 62 #[.agg #[.int .i64 (k : Int), .int .i64 (s : Int), .int .i64 (h : Int), .int .i64 (l : Int), .int .i64 (p : Int)], .int .i64 (seed : Int), v] V fun e w' => e = .returned .nilIface ∧ Below V.heap.size V w') := Lib.hid fun V hV hL => by
    refine (sRight_any k s h l p seed v (ns.map Int.ofNat) (by omega) hL.cols hV).mono ?_
    rintro e w' ⟨E, rfl, h1, h2⟩
    exact ⟨by rw [h1.nil hck], h2⟩
  have HF : Hid (∀ V, Calls Tryz.prog 63 #[.agg #[.int .i64 (k : Int), .int .i64 (s : Int), .int .i64 (h : Int), .int .i64 (l : Int), .int .i64 (p : Int)]] V fun e w' => ∃ g, e = .returned (.tuple #[.slice (some ⟨g, 0, none⟩) (s + h) (s + h), .nilIface]) ∧ MatFresh wordV 163 V.heap.size 79 w' (.slice (some ⟨g, 0, none⟩) (s + h) (s + h)) (packL l (rowsF0 k s h)) ∧ Below V.heap.size V w') := Lib.hid fun V => fixed_ok k s h l p H hk1 hk2
  have HD : Hid (∀ (V : World) (e : Nat), DgTab V → e < 65536 → Calls Tryz.prog 64 #[.agg #[.int .i64 (k : Int), .int .i64 (s : Int), .int .i64 (h : Int), .int .i64 (l : Int), .int .i64 (p : Int)], .int .i64 (seed : Int), .int .i64 (e : Int)] V fun e' w' => ∃ a c, e' = .returned (.tuple #[.slice a (kOf l) c, .nilIface]) ∧ w'.ownsRow V.heap.size 163 1 (.slice a (kOf l) c) (kOf l) ((packR l (rowE l p seed e)).map wordV) ∧ Below V.heap.size V w') := Lib.hid fun V e hV he => drawn_ok k s h l p seed e H hk1 hk2 hs he hV
  have HP0 : Hid (packL l (rowsF0 k s h) = packL l (rowsA k s h l p seed (ns.take 0))) := Lib.hid (by rw [List.take_zero, rowsA_nil])
  have HPN : Hid (packL l (rowsA k s h l p seed (ns.take ns.length)) = packL l (rowsA k s h l p seed ns)) := Lib.hid (by rw [List.take_length])
  have HPS : Hid (∀ j, j < ns.length → packL l (rowsA k s h l p seed (ns.take (j + 1))) = packL l (rowsA k s h l p seed (ns.take j)) ++ [packR l (rowE l p seed (ns.getD j 0))]) := Lib.hid fun j hj => takeA_succ hj
  have HPL : Hid (∀ j, j ≤ ns.length → (packL l (rowsA k s h l p seed (ns.take j))).length = s + h + j) := Lib.hid fun j hj => packA_len hj
  have HE : Hid (∀ j, j < ns.length → ns.getD j 0 < 65536) := Lib.hid fun j hj => by
    rw [List.getD_eq_getElem?_getD, List.getElem?_eq_getElem hj]
    exact he _ (List.getElem_mem hj)
  have hsh : s + h ≤ 40 := by omega
  clear hw0 hb0 hbx H hT hk1 hk2 hs he b1 b2 b3 b4 b5 b6 b7 hck
  obtain ⟨av, cv, rfl, hcv, -, hcell⟩ := hv
  have HC := Lib.hid hcell
  clear hcell
  unfold parV parC
  go_enter Tryz.func34, Tryz.ntmps34
  go_upto_region 1 with fail
  rw [← HW0.out]
  go_wp2_with fail
  refine (HR.out _ HT.out HV.out).mono ?_
  rintro e w1 ⟨rfl, hb1⟩
  have HB1 := Lib.hid (HB0.out.trans (hb1.mono HB0.out.size))
  have HX1 := Lib.hid (HBX.out.mono hb1)
  have HB01 := Lib.hid hb1
  clear c0 c1 c2 c3 c4 hb1
  obtain ⟨c0, c1, c2, c3, c4⟩ := HX1.out.cells
  go_wp2_with fail
  refine (HF.out _).mono ?_
  rintro e w2 ⟨g, rfl, hm, hb2⟩
  have HB2 := Lib.hid hb2
  have HT1 := Lib.hid (PairsAt.mono HT.out HB01.out)
  have HM : Hid (MatFresh wordV 163 w1.heap.size 79 w2 (.slice (some ⟨g, 0, none⟩) (s + h) (s + h)) (packL l (rowsA k s h l p seed (ns.take 0)))) := Lib.hid (by rw [← HP0.out]; exact hm)
  clear c0 c1 c2 c3 c4 hb2 hm
  go_wp2
  go_loopw [9, 34] (fun o i wr => ∃ j : Nat, j ≤ ns.length ∧ i = .int .i64 j ∧ MatFresh wordV 163 w1.heap.size 79 wr o (packL l (rowsA k s h l p seed (ns.take j))) ∧ Below w1.heap.size w1 wr) (fun _ i _ => ns.length - (intOf i).toNat)
  case atStart => exact ⟨0, Nat.zero_le _, rfl, HM.out, HB2.out⟩
  case round =>
    obtain ⟨j, hj, rfl, hmf, hbel⟩ := hrel
    clear HM
    have HMF := Lib.hid hmf
    have HBL := Lib.hid hbel
    have HBW := Lib.hid (HB1.out.trans (hbel.mono HB1.out.size))
    obtain ⟨c0, c1, c2, c3, c4⟩ := (HX1.out.mono hbel).cells
    by_cases hlt : j < ns.length
    · obtain ⟨bv, ov, rfl, hcc⟩ := HC.out (by omega)
      have hx := hcc j hlt
      have hx' : wr.cell? ⟨bv, ov + j, none⟩ = some (.int .i64 ((ns.getD j 0 : Nat) : Int)) := by
        rw [HBW.out.cell (p := ⟨bv, ov + j, none⟩) (World.block_lt_of_cell? w _ hx), hx]
        simp [List.getD_eq_getElem?_getD, hlt, colV]
      have HDR := Lib.hid (HD.out wr (ns.getD j 0) (PairsAt.mono HT1.out hbel) (HE.out j hlt))
      have HST := Lib.hid (HPS.out j hlt)
      have HLN := Lib.hid (HPL.out j hj)
      clear hcc hx hmf hbel
      generalize ns.getD j 0 = y at *
      generalize packR l (rowE l p seed y) = PR at *
      go_wp2_with fail
      refine HDR.out.mono ?_
      rintro e w5 ⟨a5, c5, rfl, ho5, hb5⟩
      have HO5 := Lib.hid ho5
      have HB5 := Lib.hid (HBL.out.trans (hb5.mono HBL.out.size))
      have HMF5 := Lib.hid (HMF.out.mono hb5)
      obtain ⟨vs5, hv5, he5, hf5⟩ := HMF5.out
      rw [HLN.out] at hv5
      have HV5 := Lib.hid hv5
      have HE5 := Lib.hid he5
      have HF5 := Lib.hid hf5
      have hsz5 := HB5.out.size
      clear ho5 hb5 hv5 he5 hf5 c0 c1 c2 c3 c4
      go_wp2_with (at_builtin; refine wpList_append_own _ rfl (.tmp 49) (.tmp 51) 76 rfl w1.heap.size 79 i0 (.slice none 0 0) 1 24 Tryz.underlying76 hi hz0 hz1 hz2 rfl (by decide) u9 (s + h + j) vs5 rfl (HV5.out.alloc _) ⟨w5.heap.size, 0, none⟩ 1 1 [.slice a5 (kOf l) c5] rfl rfl (cell_one_new _ _ _) (fun x hx => by simp at hx; subst hx; rfl) (by unfold maxLen; omega) (by omega) (by simp; omega) ?_; intro v2 w6 hown1 hgrow1 _; have HO6 := Lib.hid hown1; have HG6 := Lib.hid hgrow1; clear hown1 hgrow1)
      go_roundw
      case rel => exact ⟨j + 1, by omega, by go_num, by rw [HST.out]; exact MatFresh.app HF5.out (fun b hb => Nat.le_trans HBL.out.size (HO5.out.lt b hb).1) (by decide) (by rw [HLN.out]; exact HV5.out) HE5.out (ElAt.own HO5.out) (by rw [HLN.out]; exact HO6.out) HG6.out, (HB5.out.alloc hsz5 _).grown HG6.out (by simp; omega) (fun k hk => (HV5.out.lt k hk).1)⟩
      case measure => simp [intOf]; omega
    · obtain rfl : j = ns.length := by omega
      clear hmf hbel
      go_wp2
      go_ret2
      exact ⟨_, rfl, by rw [← HPN.out]; exact HMF.out.below HB1.out.size, HBW.out⟩
theorem rankA_words {k s h l p seed : Nat} {ns : List Nat} (hl : l = k + s + h) : rk (vecs (packL l (rowsA k s h l p seed ns))) = rankA k s h l p seed ns := by
  rw [vecs_packL fun r hr => (rowsA_in hl r hr).1]
  rfl
theorem rowsA_matok {k s h l p seed : Nat} {ns : List Nat} (hl : l = k + s + h) (h1 : l ≤ 4096) (h2 : s + h + ns.length ≤ 4096) : MatOk (packL l (rowsA k s h l p seed ns)) l :=
  packL_ok h1 (by rw [rowsA_length]; exact h2) fun r hr => (rowsA_in hl r hr).1
end Go.Proofs.YtkhdjjcflbdegaaGreatDoor
end
