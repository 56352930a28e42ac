import Derived.Test.YtfibolkgpffjkaaGreatDoorG25
import Derived.Test.YtfibolkgpffjkaaGreatDoorG26
import Derived.Test.YtfibolkgpffjkaaGreatDoorG08
import Derived.Deep.AppendLies
import Derived.Deep.RegionLaw

section
/- Package system: Middle. -/
namespace Go.Proofs.YtfibolkgpffjkaaGreatDoor
open Go.RowKit Go.Extern.Stop Go.Stop Go.Extern

def nameSMiddle : ByteArray := ⟨#[115, 121, 115, 116, 101, 109, 46, 77, 105, 100, 100, 108, 101]⟩

set_option maxRecDepth 1000000 in
set_option maxHeartbeats 4000000 in
theorem Middle_range {w : World} (K S H L P seed : Int) (v : Value) (M : List (List Nat)) (size : Int) (hK : I64 K) (hv : MatAt byteV w v M) (hT : DgTab w) (hk : checkR K S H L P seed [] ≠ 0) :
    Calls Tryz.prog 27 #[parV K S H L P, .int .i64 seed, v, .int .i64 size] w (NoSays (checkR K S H L P seed []) nameSMiddle nilS w) := by
  obtain ⟨w0, hw0, hb0, hbx⟩ := par_laid w K S H L P
  have HW0 := Lib.hid hw0
  have HB0 := Lib.hid hb0
  obtain ⟨c0, c1, c2, c3, c4⟩ := hbx.cells
  have HR : Hid (Calls Tryz.prog 45 #[.agg #[.int .i64 K, .int .i64 S, .int .i64 H, .int .i64 L, .int .i64 P], .int .i64 seed, .slice none 0 0] w0 fun e w' => ∃ E, e = .returned E ∧ RawAns (checkR K S H L P seed []) w' E ∧ Below w0.heap.size w0 w') := Lib.hid (sRight_any K S H L P seed _ [] hK (ListAt.nil _ _) (PairsAt.mono hT hb0))
  have HK := Lib.hid hk
  obtain ⟨av, cv, rfl, -, -, -⟩ := hv.opens
  clear hw0 hb0 hbx hK hT hk hv
  generalize checkR K S H L P seed [] = n at *
  unfold parV parC
  go_enter Tryz.func27, Tryz.ntmps27
  go_upto_region 1 with fail
  rw [← HW0.out]
  go_wp2_with fail
  refine HR.out.mono ?_
  rintro e w1 ⟨E, rfl, hra, hb1⟩
  obtain ⟨ls, hch⟩ := hra.some HK.out
  have HB1 := Lib.hid (HB0.out.trans (hb1.mono HB0.out.size))
  have HCH := Lib.hid hch
  obtain ⟨u, x, rfl⟩ := hch.iface
  clear hra hb1 hch c0 c1 c2 c3 c4
  go_wp2_with fail
  refine (Wrap_chain nameSMiddle n ls _ _ HCH.out).mono ?_
  rintro e w2 ⟨E2, rfl, hch, hb2⟩
  have HB2 := Lib.hid (HB1.out.trans (hb2.mono HB1.out.size))
  have HCH2 := Lib.hid hch
  obtain ⟨u2, x2, rfl⟩ := hch.iface
  clear hch hb2
  go_wp2
  go_ret2
  exact ⟨_, rfl, .inr ⟨HK.out, _, HCH2.out⟩, HB2.out⟩

theorem checkR_in {k s h l p seed : Nat} (H : OfP k s h l p) (hk1 : 1 ≤ k) (hk2 : k ≤ 128) (hs : seed < 65536) : checkR k s h l p seed [] = 0 := by
  rw [checkR_rest (by
    rintro (hn | hn | hn)
    · exact hn ⟨k, s, h, l, p, rfl, rfl, rfl, rfl, rfl, hk1, hk2, H⟩
    · omega
    · omega) (fun j hj => by simp at hj), if_neg (by simp)]

set_option maxRecDepth 1000000 in
set_option maxHeartbeats 4000000 in
theorem Middle_size {w : World} (k s h l p seed : Nat) (v : Value) (M : List (List Nat)) (size : Int) (H : OfP k s h l p) (hk1 : 1 ≤ k) (hk2 : k ≤ 128) (hs : seed < 65536) (hv : MatAt byteV w v M) (hT : DgTab w) (hz : size < 1 ∨ 64 < size) :
    Calls Tryz.prog 27 #[parV k s h l p, .int .i64 (seed : Int), v, .int .i64 size] w (NoSays 1 nameSMiddle nilS w) := by
  obtain ⟨w0, hw0, hb0, hbx⟩ := par_laid w k s h l p
  have HW0 := Lib.hid hw0
  have HB0 := Lib.hid hb0
  have HBX := Lib.hid hbx
  obtain ⟨c0, c1, c2, c3, c4⟩ := hbx.cells
  have HR : Hid (Calls Tryz.prog 45 #[.agg #[.int .i64 (k : Int), .int .i64 (s : Int), .int .i64 (h : Int), .int .i64 (l : Int), .int .i64 (p : Int)], .int .i64 (seed : Int), .slice none 0 0] w0 fun e w' => e = .returned .nilIface ∧ Below w0.heap.size w0 w') := Lib.hid (by
    refine (sRight_any k s h l p seed _ [] (by omega) (ListAt.nil _ _) (PairsAt.mono hT hb0)).mono ?_
    rintro e w' ⟨E, rfl, h1, h2⟩
    exact ⟨by rw [h1.nil (checkR_in H hk1 hk2 hs)], h2⟩)
  have HBG : Hid (∀ V, Calls Tryz.prog 42 #[.agg #[.int .i64 (k : Int), .int .i64 (s : Int), .int .i64 (h : Int), .int .i64 (l : Int), .int .i64 (p : Int)], .int .i64 size] V (NoSays 1 nameElNew nilP V)) := Lib.hid fun V => begin_bad k s h l p size hz
  obtain ⟨av, cv, rfl, -, -, -⟩ := hv.opens
  clear hw0 hb0 hbx H hT hz hk1 hk2 hs hv
  unfold parV parC
  go_enter Tryz.func27, Tryz.ntmps27
  go_upto_region 1 with fail
  rw [← HW0.out]
  go_wp2_with fail
  refine HR.out.mono ?_
  rintro e w1 ⟨rfl, hb1⟩
  have HB1 := Lib.hid (HB0.out.trans (hb1.mono HB0.out.size))
  have hxc := HBX.out.mono hb1
  clear hb1 c0 c1 c2 c3 c4
  obtain ⟨c0, c1, c2, c3, c4⟩ := hxc.cells
  clear hxc
  go_wp2_with fail
  refine (HBG.out _).mono ?_
  rintro e w2 ⟨E, rfl, hea, hb2⟩
  obtain ⟨ls, hch⟩ : ∃ ls, Chain w2 1 (nameElNew :: ls) E := (hea.resolve_left (by rintro ⟨h, -⟩; cases h)).2
  have HB2 := Lib.hid (HB1.out.trans (hb2.mono HB1.out.size))
  have HCH := Lib.hid hch
  obtain ⟨u, x, rfl⟩ := hch.iface
  clear hea hb2 hch c0 c1 c2 c3 c4
  go_wp2_with fail
  refine (Wrap_chain nameSMiddle 1 _ _ _ HCH.out).mono ?_
  rintro e w3 ⟨E2, rfl, hch, hb3⟩
  have HB3 := Lib.hid (HB2.out.trans (hb3.mono HB2.out.size))
  have HCH2 := Lib.hid hch
  obtain ⟨u2, x2, rfl⟩ := hch.iface
  clear hch hb3
  go_wp2
  go_ret2
  exact ⟨_, rfl, .inr ⟨by decide, _, HCH2.out⟩, HB3.out⟩

/-- What Middle says of source symbols that may be: the middle ones, if the rank is full. -/
def MidSays (k s h l p seed size : Nat) (M : List (List Nat)) (w : World) (e : Ending) (w' : World) : Prop :=
  (formedB M k size = true ∧ rankA k s h l p seed (List.range k) = l ∧ ∃ v V, e = .returned (.tuple #[v, .nilIface]) ∧ MatFresh byteV 5 w.heap.size 38 w' v V ∧ Tells l size (sysE k s h l p seed size (fun t => M.getD t []) k) V ∧ Cons l (sysE k s h l p seed size (fun t => M.getD t []) k) ∧ Below w.heap.size w w') ∨
  (formedB M k size = true ∧ rankA k s h l p seed (List.range k) ≠ l ∧ NoSays 4 nameSMiddle nilS w e w') ∨ (formedB M k size = false ∧ NoSays 2 nameSMiddle nilS w e w')

set_option maxRecDepth 1000000 in
set_option maxHeartbeats 4000000 in
theorem Middle_ok {w : World} (k s h l p seed size : Nat) (v : Value) (M : List (List Nat)) (H : OfP k s h l p) (hk1 : 1 ≤ k) (hk2 : k ≤ 128) (hs : seed < 65536) (hz1 : 1 ≤ size) (hz2 : size ≤ 64) (hv : MatAt byteV w v M) (ho : ∀ r ∈ M, Octets r) (hT : DgTab w) (hB : Tab w) :
    Calls Tryz.prog 27 #[parV k s h l p, .int .i64 (seed : Int), v, .int .i64 (size : Int)] w (MidSays k s h l p seed size M w) := by
  have HT := Lib.hid hT
  have HBT := Lib.hid hB
  have HOF := Lib.hid H
  obtain ⟨w0, hw0, hb0, hbx⟩ := par_laid w k s h l p
  have HW0 := Lib.hid hw0
  have HB0 := Lib.hid hb0
  have HBX := Lib.hid hbx
  obtain ⟨c0, c1, c2, c3, c4⟩ := hbx.cells
  have HR : Hid (Calls Tryz.prog 45 #[.agg #[.int .i64 (k : Int), .int .i64 (s : Int), .int .i64 (h : Int), .int .i64 (l : Int), .int .i64 (p : Int)], .int .i64 (seed : Int), .slice none 0 0] w0 fun e w' => e = .returned .nilIface ∧ Below w0.heap.size w0 w') := Lib.hid (by
    refine (sRight_any k s h l p seed _ [] (by omega) (ListAt.nil _ _) (PairsAt.mono hT hb0)).mono ?_
    rintro e w' ⟨E, rfl, h1, h2⟩
    exact ⟨by rw [h1.nil (checkR_in H hk1 hk2 hs)], h2⟩)
  have HBG : Hid (∀ V, Tab V → Calls Tryz.prog 42 #[.agg #[.int .i64 (k : Int), .int .i64 (s : Int), .int .i64 (h : Int), .int .i64 (l : Int), .int .i64 (p : Int)], .int .i64 (size : Int)] V fun e w' => ∃ b kb, e = .returned (.tuple #[sysP b, .nilIface]) ∧ Sys w' b l size (sysF k s h l size) (s + h) false kb ∧ V.heap.size ≤ b ∧ V.heap.size ≤ kb ∧ Below V.heap.size V w') := Lib.hid fun V hV => begin_ok k s h l p size H hk1 hk2 hz1 hz2 hV
  have HAD : Hid (∀ (V : World) (b : Nat) (K : List Vec) (r kb t : Nat) (x : Value) (y : List Nat), Sys V b l size K r false kb → t < k → ListAt byteV V x y → y.length = size → Octets y → DgTab V → Tab V → Calls Tryz.prog 44 #[sysP b, .agg #[.int .i64 (k : Int), .int .i64 (s : Int), .int .i64 (h : Int), .int .i64 (l : Int), .int .i64 (p : Int)], .int .i64 (seed : Int), .int .i64 (t : Int), x] V fun e w' => e = .returned (.tuple #[.int .i64 (kindV l K (eqL l (rowE l p seed t) y) : Nat), .nilIface]) ∧ Touch b kb V w' ∧
      Sys w' b l size (addV l K (eqL l (rowE l p seed t) y)) (addR l K (eqL l (rowE l p seed t) y) r) (decide (kindV l K (eqL l (rowE l p seed t) y) = 3)) kb) := Lib.hid fun V b K r kb t x y h1 h2 h3 h4 h5 h6 h7 => add_ok b K r kb k s h l p seed t size x y h1 H hk1 hk2 hs (by omega) h3 h4 h5 h6 h7
  have HM := Lib.hid hv
  have HO := Lib.hid ho
  have hml := hv.len
  obtain ⟨av, cv, rfl, hcv, -, hcell⟩ := hv.opens
  have HC := Lib.hid hcell
  have HK := Lib.hid (show k ≤ 128 from hk2)
  clear hw0 hb0 hbx H hT hB hk1 hk2 hs hv ho hz1 hz2 hcell
  unfold parV parC
  go_enter Tryz.func27, Tryz.ntmps27
  go_upto_region 1 with fail
  rw [← HW0.out]
  go_wp2_with fail
  refine HR.out.mono ?_
  rintro e w1 ⟨rfl, hb1⟩
  have HB1 := Lib.hid (HB0.out.trans (hb1.mono HB0.out.size))
  have HX1 := Lib.hid (HBX.out.mono hb1)
  clear hb1 c0 c1 c2 c3 c4
  obtain ⟨c0, c1, c2, c3, c4⟩ := HX1.out.cells
  go_wp2_with fail
  refine (HBG.out _ (HBT.out.mono HB1.out)).mono ?_
  rintro e w2 ⟨b, kb, rfl, hsys, hgb, hgk, hb2⟩
  have HS2 := Lib.hid hsys
  have HGB := Lib.hid (show w1.heap.size ≤ b ∧ w1.heap.size ≤ kb from ⟨hgb, hgk⟩)
  have HB12 := Lib.hid hb2
  have HB2 := Lib.hid (HB1.out.trans (hb2.mono HB1.out.size))
  have HFM := Lib.hid (sformed_any _ M k size (HM.out.mono HB2.out))
  clear c0 c1 c2 c3 c4
  obtain ⟨c0, c1, c2, c3, c4⟩ := (HX1.out.mono hb2).cells
  clear hsys hgb hgk hb2
  go_wp2_with fail
  refine HFM.out.mono ?_
  rintro e w3 ⟨rfl, rfl⟩
  cases hfb : formedB M k size with
  | false =>
    have HFB := Lib.hid hfb
    clear hfb c0 c1 c2 c3 c4
    go_wp2_with fail
    refine (New_ans nameSMiddle 2 (by decide) _).mono ?_
    rintro e w3 ⟨E, rfl, hea, hb3⟩
    have HEA := Lib.hid hea
    have HB3 := Lib.hid (HB2.out.trans (hb3.mono HB2.out.size))
    obtain ⟨u, x, rfl⟩ := hea.some (by decide)
    clear hea hb3
    go_wp2
    go_ret2
    exact .inr (.inr ⟨HFB.out, _, rfl, HEA.out, HB3.out⟩)
  | true =>
    obtain ⟨hf1, hf2⟩ := formedB_yes hfb
    have hlk : M.length = k := by omega
    have HFB := Lib.hid hfb
    have HLK := Lib.hid hlk
    have HLR : Hid (∀ t, t < k → (M.getD t []).length = size ∧ Octets (M.getD t [])) := Lib.hid fun t ht => by
      have hm : M.getD t [] ∈ M := getD_mem_row (by omega)
      exact ⟨by have := hf2 _ hm; omega, HO.out _ hm⟩
    have HR0 := Lib.hid (rank_F k s h l p seed)
    have HS0 : Hid (Sys w2 b l size (sysE k s h l p seed size (fun t => M.getD t []) 0) (s + h + 0) false kb) := Lib.hid (by rw [sysE_zero]; exact HS2.out)
    clear hfb hf1 hf2 hlk c0 c1 c2 c3 c4
    go_wp2
    go_loopw [44] (fun i wr => ∃ j : Nat, j ≤ k ∧ i = .int .i64 j ∧ Sys wr b l size (sysE k s h l p seed size (fun t => M.getD t []) j) (s + h + j) false kb ∧ rankA k s h l p seed (List.range j) = s + h + j ∧ Below w1.heap.size w1 wr) (fun i _ => k - (intOf i).toNat)
    case atStart => exact ⟨0, Nat.zero_le _, rfl, HS0.out, HR0.out, HB12.out⟩
    case round =>
      obtain ⟨j, hj, rfl, hsx, hrq, hbel⟩ := hrel
      clear HS0 HR0
      have HBL := Lib.hid hbel
      have HBW := Lib.hid (HB1.out.trans (hbel.mono HB1.out.size))
      obtain ⟨c0, c1, c2, c3, c4⟩ := (HX1.out.mono hbel).cells
      have hlk := HLK.out
      by_cases hlt : j < k
      · obtain ⟨bv, ov, rfl, hcc⟩ := HC.out (by omega)
        obtain ⟨x, hx, hlx⟩ := hcc j (by omega)
        have hx' : wr.cell? ⟨bv, ov + j, none⟩ = some x := (HBW.out.cell (p := ⟨bv, ov + j, none⟩) (World.block_lt_of_cell? w _ hx)).trans hx
        have HFI := Lib.hid (fresh_iff (size := size) (src := fun t => M.getD t []) (y := M.getD j []) HOF.out.2.2.1 hrq)
        have HAE := Lib.hid (HAD.out wr b _ _ kb j x (M.getD j []) hsx hlt (hlx.mono HBW.out) (HLR.out j hlt).1 (HLR.out j hlt).2 (PairsAt.mono HT.out HBW.out) (HBT.out.mono HBW.out))
        have HES := Lib.hid (sysE_succ k s h l p seed size (fun t => M.getD t []) j)
        obtain ⟨kd, hkd⟩ : ∃ kd, kindV l (sysE k s h l p seed size (fun t => M.getD t []) j) (eqL l (rowE l p seed j) (M.getD j [])) = kd := ⟨_, rfl⟩
        obtain ⟨ax, cx, hxe, -, -, -⟩ := hlx
        subst hxe
        have hjb : ((j : Int) < (M.length : Int)) := by omega
        by_cases h1 : kd = 1
        · subst h1
          have HAF : Hid (Calls Tryz.prog 44 #[sysP b, .agg #[.int .i64 (k : Int), .int .i64 (s : Int), .int .i64 (h : Int), .int .i64 (l : Int), .int .i64 (p : Int)], .int .i64 (seed : Int), .int .i64 (j : Int), .slice ax (M.getD j []).length cx] wr fun e w' => e = .returned (.tuple #[.int .i64 1, .nilIface]) ∧ Touch b kb wr w' ∧ Sys w' b l size (sysE k s h l p seed size (fun t => M.getD t []) (j + 1)) (s + h + (j + 1)) false kb) := Lib.hid (by
            refine HAE.out.mono ?_
            rintro e w' ⟨rfl, h1, h2⟩
            unfold addV addR at h2
            rw [hkd] at h2 ⊢
            refine ⟨rfl, h1, ?_⟩
            rw [HES.out]
            exact h2)
          have HRQ := Lib.hid (HFI.out.1 hkd)
          clear HAE HFI HES hkd hsx hrq hbel hx hcc hlk
          generalize (M.getD j []).length = rl at *
          go_wp2_with fail
          refine HAF.out.mono ?_
          rintro e w5 ⟨rfl, ht5, hs5⟩
          have HS5 := Lib.hid hs5
          have HB5 := Lib.hid (HBL.out.trans (ht5.below HGB.out.1 HGB.out.2 HBL.out.size))
          clear ht5 hs5 c0 c1 c2 c3 c4
          go_wp2
          go_roundw
          case rel => exact ⟨j + 1, by omega, by go_num, HS5.out, HRQ.out, HB5.out⟩
          case measure => simp [intOf]; omega
        · have HAF : Hid (Calls Tryz.prog 44 #[sysP b, .agg #[.int .i64 (k : Int), .int .i64 (s : Int), .int .i64 (h : Int), .int .i64 (l : Int), .int .i64 (p : Int)], .int .i64 (seed : Int), .int .i64 (j : Int), .slice ax (M.getD j []).length cx] wr fun e w' => e = .returned (.tuple #[.int .i64 (kd : Int), .nilIface]) ∧ Touch b kb wr w') := Lib.hid (by
            refine HAE.out.mono ?_
            rintro e w' ⟨rfl, h1, h2⟩
            rw [hkd]
            exact ⟨rfl, h1⟩)
          have HNR : Hid (rankA k s h l p seed (List.range k) ≠ l) := Lib.hid (by
            have h2 := HFI.out.2 (by rw [hkd]; exact h1) k hlt
            have h4 := HOF.out.2.2.1
            omega)
          have hkb1 : ((kd : Int) == 1) = false := by rw [beq_eq_false_iff_ne]; omega
          have hkb2 : ((kd : Int) != 1) = true := by rw [bne_iff_ne]; omega
          clear HAE HFI HES hkd hsx hrq hbel hx hcc hlk h1
          generalize (M.getD j []).length = rl at *
          go_wp2_with fail
          refine HAF.out.mono ?_
          rintro e w5 ⟨rfl, ht5⟩
          have HB5 := Lib.hid (HB1.out.trans ((HBL.out.trans (ht5.below HGB.out.1 HGB.out.2 HBL.out.size)).mono HB1.out.size))
          clear ht5 c0 c1 c2 c3 c4
          go_wp2_with fail
          refine (New_ans nameSMiddle 4 (by decide) _).mono ?_
          rintro e w6 ⟨E, rfl, hea, hb6⟩
          have HEA := Lib.hid hea
          have HB6 := Lib.hid (HB5.out.trans (hb6.mono HB5.out.size))
          obtain ⟨u, x, rfl⟩ := hea.some (by decide)
          clear hea hb6
          go_wp2
          go_ret2
          exact .inr (.inl ⟨HFB.out, HNR.out, _, rfl, HEA.out, HB6.out⟩)
      · obtain rfl : j = k := by omega
        have hl := HOF.out.2.2.1
        have hsl : s + h + j = l := by omega
        rw [hsl] at hsx hrq
        have HRQ := Lib.hid hrq
        have HCO := Lib.hid hsx.cons
        have HAL := Lib.hid (sysAll_new b l size _ kb hsx)
        have hjb : ¬ ((j : Int) < (M.length : Int)) := by omega
        clear hsx hrq hbel c0 c1 c2 c3 c4 hl hsl
        go_wp2_with fail
        refine HAL.out.mono ?_
        rintro e w5 ⟨v', V, rfl, hm5, hvl, hvv, hb5⟩
        have HM5 := Lib.hid (hm5.below HBW.out.size)
        have HTE := Lib.hid (show Tells l size _ V from ⟨hvl, hvv⟩)
        have HB5 := Lib.hid (HBW.out.trans (hb5.mono HBW.out.size))
        clear hm5 hvl hvv hb5
        go_wp2_with fail
        refine (Wrap_nil nameSMiddle w5).mono ?_
        rintro e w6 ⟨rfl, rfl⟩
        go_wp2
        go_ret2
        exact .inl ⟨HFB.out, HRQ.out, _, V, rfl, HM5.out, HTE.out, HCO.out, HB5.out⟩
end Go.Proofs.YtfibolkgpffjkaaGreatDoor
end

section
/- Package symbol: Split. -/
namespace Go.Proofs.YtfibolkgpffjkaaGreatDoor
open Go.RowKit Go.Extern.Stop Go.Stop Go.Extern

theorem ListAt.cutAt {α : Type} {f : α → Value} {w : World} {b off cap : Nat} {l : List α} (h : ListAt f w (.slice (some ⟨b, off, none⟩) l.length cap) l) (c : Nat) (hc : c ≤ l.length) :
    ListAt f w (.slice (some ⟨b, off + c, none⟩) (l.length - c) (cap - c)) (l.drop c) := by
  obtain ⟨a', cap', e, h1, h2, h3⟩ := h
  cases e
  refine ⟨_, cap - c, by rw [List.length_drop], by rw [List.length_drop]; omega, by omega, fun hp => ⟨b, off + c, rfl, fun j hj => ?_⟩⟩
  rw [List.length_drop] at hj hp
  obtain ⟨b', off', e, hcell⟩ := h3 (by omega)
  cases e
  rw [Nat.add_assoc, hcell (c + j) (by omega)]
  simp

theorem ListAt.addr0 {α : Type} {f : α → Value} {w : World} {a a' : Option Addr} {n cap : Nat} {l : List α} (h : ListAt f w (.slice a n cap) l) (h0 : n = 0) : ListAt f w (.slice a' n cap) l := by
  obtain ⟨a1, cap1, e, h1, h2, -⟩ := h
  obtain ⟨rfl, rfl, rfl⟩ : a = a1 ∧ n = l.length ∧ cap = cap1 := by simpa using e
  exact ⟨a', _, rfl, h1, h2, fun hp => by omega⟩

theorem piece_splice (P : List Nat) (m k : Nat) : splice (List.replicate m (byteV 0)) 0 (((P.drop (k * m)).take m).map byteV) = (pieceAt P m k).map byteV := by
  unfold splice pieceAt
  have hcl : (((P.drop (k * m)).take m).map byteV).length = min m (P.length - k * m) := by simp
  rw [List.take_zero, List.nil_append, Nat.zero_add, hcl]
  generalize hq : k * m = q at *
  apply List.ext_getElem?
  intro j
  rw [List.getElem?_append, hcl]
  by_cases hjm : j < m
  · by_cases hj : q + j < P.length
    · rw [if_pos (by omega)]
      simp [hjm, List.getD_eq_getElem?_getD, hj]
    · rw [if_neg (by omega), List.getElem?_drop, List.getElem?_replicate, if_pos (by omega)]
      simp [hjm, List.getD_eq_getElem?_getD, List.getElem?_eq_none (show P.length ≤ q + j by omega)]
  · rw [if_neg (by omega), List.getElem?_drop, List.getElem?_replicate, if_neg (by omega)]
    simp [List.getElem?_eq_none (show (List.range m).length ≤ j by simp; omega)]

end Go.Proofs.YtfibolkgpffjkaaGreatDoor
end

section
/- Package geyserref04: Zero, Split. -/
namespace Go.Proofs.YtfibolkgpffjkaaGreatDoor
open Go.RowKit Go.Extern.Stop Go.Stop Go.Extern

theorem fill_piece {P : List Nat} {m k t : Nat} (h : t = m ∨ P.length ≤ k * m + t) : fillTo (fun j => P.getD (k * m + j) 0) 0 m t = pieceAt P m k := by
  unfold fillTo pieceAt
  apply List.map_congr_left
  intro j hj
  have hj' := List.mem_range.1 hj
  by_cases e : j < t
  · rw [if_pos e]
  · rw [if_neg e, List.getD_eq_getElem?_getD, List.getElem?_eq_none (by omega)]; rfl

end Go.Proofs.YtfibolkgpffjkaaGreatDoor
end

section
/- append of a slice that is only read (nil, empty or not), onto a row of the call's own, as one step of a region that draws. -/
namespace Go.Proofs.YtfibolkgpffjkaaGreatDoor
open Go.RowKit Go.Extern.Stop Go.Stop Go.Extern

theorem run_append_of {P : Program} {α : Type} {f : α → Value} (w : World) (t ty : TypeId) (base : Nat) (e : TypeId) (i : TypeInfo) (z : Value) (bytes : Nat) (ht : P.underlying t = some (.slice e)) (hi : P.info? e = some i) (hz : i.zero = some z)
    (hsize : i.size = 1) (hby : i.bytes = bytes) (hzs : z.cells.size = 1)
    (v : Value) (n : Nat) (xs : List Value) (hown : w.ownsRow base e 1 v n xs)
    (src : Value) (l : List α) (hl : ListAt f w src l) (h1 : ∀ y ∈ l, (f y).oneCell' = true)
    (h63 : n + l.length ≤ maxLen) (hbytes : (n + l.length) * bytes ≤ 140737488355328) (hbase : base ≤ w.heap.size) :
    ∃ v' w', (Builtin.append_ #[t, t] ty #[v, src]).run P w = .ok v' w' ∧ w'.ownsRow base e 1 v' (n + l.length) (xs ++ l.map f) ∧ w.grownBy w' v.ownBlock := by
  obtain ⟨ad, cap, rfl, hc, hm, hcell⟩ := hl
  by_cases hp : 0 < l.length
  · obtain ⟨b, off, rfl, hcc⟩ := hcell hp
    obtain ⟨v', w', h2, h3, h4, -⟩ := run_append_own (P := P) w base t ty e i z 1 bytes ht hi hz hsize hby hzs (by decide) v n xs hown ⟨b, off, none⟩ l.length cap (l.map f) (by simp)
      (fun j u hu => by
        have hj : j < l.length := by have := (List.getElem?_eq_some_iff.1 hu).1; simpa using this
        rw [Go.WideShapes.add_plain, hcc j hj]
        simp [hj] at hu
        rw [hu]) (fun u hu => by
        obtain ⟨y, hy, rfl⟩ := List.mem_map.1 hu
        exact h1 y hy) h63 hbytes hbase
    exact ⟨v', w', h2, h3, h4⟩
  · have hl0 : l = [] := List.eq_nil_of_length_eq_zero (by omega)
    subst hl0
    cases ad with
    | none => exact ⟨v, w, run_append_none_cap (P := P) (w := w) base t ty e i 1 ht hi v n cap xs hown, by simpa using hown, World.grownBy.refl _ _⟩
    | some ad =>
      obtain ⟨v', w', h2, h3, h4, -⟩ := run_append_own (P := P) w base t ty e i z 1 bytes ht hi hz hsize hby hzs (by decide) v n xs hown ad 0 cap [] (by simp) (fun j u hu => by simp at hu) (fun u hu => by simp at hu) h63 hbytes hbase
      exact ⟨v', w', h2, by simpa using h3, h4⟩

theorem step_append_of {P : Program} {α : Type} {f : α → Value} {w : World} {ops : Array Oper} {o : Oper} {a : Act} {K : Act → World → Prop} {Q : Exit → Act → World → Prop} {E : Prop} (hgd : o.guard = none) (s x : Operand) (t : TypeId)
    (ho : o.op = .call { callee := .builtin .append, args := #[s, x], argTypes := #[t, t] })
    (base : Nat) (e : TypeId) (i : TypeInfo) (z : Value) (bytes : Nat) (ht : P.underlying t = some (.slice e)) (hi : P.info? e = some i) (hz : i.zero = some z)
    (hsize : i.size = 1) (hby : i.bytes = bytes) (hzs : z.cells.size = 1)
    (v : Value) (n : Nat) (xs : List Value) (hs : a.eval s = v) (hown : w.ownsRow base e 1 v n xs)
    (src : Value) (l : List α) (hx : a.eval x = src) (hl : ListAt f w src l) (h1 : ∀ y ∈ l, (f y).oneCell' = true)
    (h63 : n + l.length ≤ maxLen) (hbytes : (n + l.length) * bytes ≤ 140737488355328) (hbase : base ≤ w.heap.size)
    (h : ∀ v' w', w'.ownsRow base e 1 v' (n + l.length) (xs ++ l.map f) → w.grownBy w' v.ownBlock → K (a.put o.dst v') w') :
    if Region.wanted o (yielded ops a.tmps) = true then Oper.wp P o a w K Q else E := by
  have hw : Region.wanted o (yielded ops a.tmps) = true := by simp [Region.wanted, hgd]
  rw [if_pos hw]
  obtain ⟨v', w', hr, h2, h3⟩ := run_append_of (P := P) (f := f) w t o.type base e i z bytes ht hi hz hsize hby hzs v n xs hown src l hl h1 h63 hbytes hbase
  unfold Oper.wp execOp
  simp only [ho, resolve, invoke, builtin, Sem.run_bind, Sem.run_pure, Result.andThen_ok, List.map_toArray, List.map_cons, List.map_nil, hs, hx, hr]
  exact h v' w' h2 h3
end Go.Proofs.YtfibolkgpffjkaaGreatDoor
end
