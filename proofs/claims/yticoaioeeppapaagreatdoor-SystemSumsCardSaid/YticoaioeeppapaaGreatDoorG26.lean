import Derived.Test.YticoaioeeppapaaGreatDoorG25
import Derived.Test.YticoaioeeppapaaGreatDoorG06
import Derived.Shelf.Strconv.Itoa0
import Derived.Shelf.Spec.TrailingZeros
import Derived.Laws.Bits128
import Derived.Test.YticoaioeeppapaaGreatDoorG01
import Derived.Test.YticoaioeeppapaaGreatDoorG05
import Derived.BigQuiet
import Derived.WalkSmall
import Derived.Deep.QuietTactic
import Derived.Laws.ShiftsVar

section
/- The document's answers for layer 11: Rows. -/
namespace Go.Proofs.YticoaioeeppapaaGreatDoor
open Go.RowKit Go.Extern.Stop Go.Stop Go.Extern

theorem rPack_row {w : World} (v : Value) (r : List Nat) (n : Nat) (h : ListAt colV w v r) (hn : n ≤ 4096) :
    Calls Tryz.prog 39 #[v, .int .i64 (n : Int)] w fun e w' => ∃ v', e = .returned v' ∧ w'.ownsRow w.heap.size 120 1 v' (kOf n) ((packR n r).map wordV) ∧ Below w.heap.size w w' := by
  have hk : (sizeI (n : Int)).toNat = kOf n := by rw [sizeI_of hn]; rfl
  have := refPack_own v (r.map Int.ofNat) (n : Int) h.cols ⟨by omega, by omega⟩
  rwa [hk] at this
theorem packL_take {n : Nat} {R : List (List Nat)} {q : Nat} (h : q < R.length) : packL n (R.take (q + 1)) = packL n (R.take q) ++ [packR n (R.getD q [])] := by
  rw [List.take_succ_eq_append_getElem h, packL_append]
  simp [packL, List.getD_eq_getElem?_getD, h]

set_option maxRecDepth 1000000 in
set_option maxHeartbeats 4000000 in
theorem r11Rows_any {w : World} (k s h l p seed : Nat) (v : Value) (ns : List Nat) (H : OfP k s h l p) (hk1 : 1 ≤ k) (hk2 : k ≤ 128) (hs : seed < 65536) (hv : ListAt colV w v ns) (he : ∀ e ∈ ns, e < 65536) (hl : ns.length ≤ 4000) :
    Calls Tryz.prog 15 #[parV k s h l p, .int .i64 (seed : Int), v] w fun e w' => ∃ v', e = .returned v' ∧ MatFresh wordV 120 w.heap.size 62 w' v' (packL l (rowsA k s h l p seed ns)) ∧ Below w.heap.size w w' := by
  obtain ⟨i0, hi, hz0, hz1, hz2⟩ := info_parts info_row
  obtain ⟨b1, b2, b3, b4, b5, b6, b7⟩ := H.bounds hk1 hk2
  obtain ⟨w0, hw0, hb0, hbx⟩ := par_laid w k s h l p
  have HW0 := Lib.hid hw0
  have HB0 := Lib.hid hb0
  have HBX := Lib.hid hbx
  obtain ⟨c0, c1, c2, c3, c4⟩ := hbx.cells
  have HP : Hid (Calls Tryz.prog 38 #[.agg #[.int .i64 (k : Int), .int .i64 (s : Int), .int .i64 (h : Int), .int .i64 (l : Int), .int .i64 (p : Int)], .int .i64 (seed : Int), v] w0 fun e w' => ∃ v', e = .returned v' ∧ MatFresh colV 3 w0.heap.size 24 w' v' (rowsA k s h l p seed ns) ∧ Below w0.heap.size w0 w') := Lib.hid (rPlaces_any k s h l p seed v ns H hk1 hk2 hs (hv.mono hb0) he (by omega))
  have hlen : (rowsA k s h l p seed ns).length ≤ 4040 := by rw [rowsA_length]; omega
  have hl5 : l ≤ 4096 := by omega
  obtain ⟨av, cv, rfl, -, -, -⟩ := hv
  clear hw0 hb0 hbx H hk1 hk2 hs he b1 b2 b3 b4 b5 b6 b7 hl
  generalize rowsA k s h l p seed ns = R at *
  unfold parV parC
  go_enter Tryz.func15, Tryz.ntmps15
  go_upto_region 1 with fail
  rw [← HW0.out]
  go_wp2_with fail
  refine HP.out.mono ?_
  rintro e w1 ⟨v1, rfl, hm1, hb1⟩
  obtain ⟨a1, q1, rfl, -, -, hcell⟩ := hm1.own.at.opens
  have HC := Lib.hid hcell
  have HB1 := Lib.hid (HB0.out.trans (hb1.mono HB0.out.size))
  have HX1 := Lib.hid (HBX.out.mono hb1)
  have HKS : Hid (∀ q, q < R.length → packL l (R.take (q + 1)) = packL l (R.take q) ++ [packR l (R.getD q [])]) := Lib.hid fun q hq => packL_take hq
  have HKL : Hid (∀ q, q ≤ R.length → (packL l (R.take q)).length = q) := Lib.hid fun q hq => by rw [packL_length, List.length_take]; omega
  have HKN : Hid (packL l (R.take R.length) = packL l R) := Lib.hid (by rw [List.take_length])
  clear hm1 hb1 hcell c0 c1 c2 c3 c4
  obtain ⟨n, hn⟩ : ∃ n, R.length = n := ⟨_, rfl⟩
  rw [hn] at hlen HC HKS HKL HKN ⊢
  clear hn
  go_wp2_with fail
  go_loopw [8, 9] (fun o i wr => ∃ j : Nat, j ≤ n ∧ i = .int .i64 j ∧ MatFresh wordV 120 w1.heap.size 62 wr o (packL l (R.take j)) ∧ Below w1.heap.size w1 wr) (fun _ i _ => n - (intOf i).toNat)
  case atStart => exact ⟨0, Nat.zero_le _, rfl, MatFresh.start w1 (Nat.le_refl _), (Below.refl _ _).alloc (Nat.le_refl _) _⟩
  case round =>
    obtain ⟨j, hj, rfl, hmf, hbel⟩ := hrel
    have HMF := Lib.hid hmf
    have HBL := Lib.hid hbel
    have HBW := Lib.hid (HB1.out.trans (hbel.mono HB1.out.size))
    by_cases hlt : j < n
    · obtain ⟨bv, ov, rfl, hcc⟩ := HC.out (by omega)
      obtain ⟨x, hx, hlx⟩ := hcc j hlt
      have hbd := hbel.drew
      have HBD := Lib.hid hbd
      have hx' : wr.drew.cell? ⟨bv, ov + j, none⟩ = some x := (hbd.cell (p := ⟨bv, ov + j, none⟩) (World.block_lt_of_cell? w1 _ hx)).trans hx
      obtain ⟨c0, c1, c2, c3, c4⟩ := (HX1.out.mono hbd).cells
      have HDR := Lib.hid (rPack_row (w := wr.drew) x (R.getD j []) l (hlx.mono hbd) hl5)
      have HST := Lib.hid (HKS.out j hlt)
      have HLN := Lib.hid (HKL.out j hj)
      have HMD := Lib.hid (hmf.mono ((Below.refl _ _).drew))
      have hszd := hbd.size
      obtain ⟨ax, cx, hxe, -, -, -⟩ := hlx
      subst hxe
      clear hcc hx hmf hbel hbd
      generalize (R.getD j []).length = rl at *
      generalize packR l (R.getD j []) = PR at *
      go_wp2_with fail
      go_region_law (first
        | (go_simp; go_at_call 39; refine HDR.out.mono ?_; rintro e w5 ⟨v5, rfl, ho5, hb5⟩; have HO5 := Lib.hid ho5; have HB5 := Lib.hid (HBD.out.trans (hb5.mono hszd)); have hsz5 := HB5.out.size; obtain ⟨vs5, hv5, he5, hf5⟩ := HMD.out.mono hb5; rw [HLN.out] at hv5; have HV5 := Lib.hid hv5; have HE5 := Lib.hid he5; have HF5 := Lib.hid hf5; obtain ⟨a5, c5, rfl, -, -⟩ := own_open ho5; clear ho5 hb5 hv5 he5 hf5 hx' c0 c1 c2 c3 c4)
        | (refine step_append_lies _ rfl (.tmp 21) (.tmp 29) 26 rfl w1.heap.size 62 i0 (.slice none 0 0) 1 24 Tryz.underlying26 hi hz0 hz1 hz2 rfl (by decide) u8 j vs5 (by simp [Act.eval]) (HV5.out.alloc _) ⟨w5.heap.size, 0, none⟩ 1 1 [.slice a5 (kOf l) c5] (by simp [Act.eval]) rfl (cell_one_new _ _ _) (fun x hx => by simp at hx; subst hx; rfl) (by decide) (by unfold maxLen; omega) (by omega) (by simp; omega) _ rfl ?_; intro g2 q2 w6 hown1 hgrow1 _ _; have HB6 := Lib.hid ((HB5.out.alloc hsz5 _).grown hgrow1 (by simp; omega) (fun k hk => (HV5.out.lt k hk).1)); have HM6 : Hid (MatFresh wordV 120 w1.heap.size 62 w6 _ (packL l (R.take j) ++ [PR])) := Lib.hid (MatFresh.app HF5.out (fun b hb => Nat.le_trans hszd (HO5.out.lt b hb).1) (by decide) (by rw [HLN.out]; exact HV5.out) HE5.out (ElAt.own HO5.out) (by rw [HLN.out]; exact hown1) hgrow1); clear hown1 hgrow1))
      all_goals go_wp2
      all_goals exact ⟨⟨j + 1, by omega, by go_num, by rw [HST.out]; exact HM6.out, HB6.out⟩, by simp [intOf]; omega⟩
    · obtain rfl : j = n := by omega
      clear hmf hbel
      go_wp2
      go_ret
      exact ⟨_, rfl, by rw [← HKN.out]; exact HMF.out.below HB1.out.size, HBW.out⟩

/-! ### lead -/
/-- A row's least column, or -1. -/
def LeadSays (r : List Nat) (z : Int) : Prop := (z = -1 ∧ bitW r = vzero) ∨ ∃ c : Nat, z = (c : Int) ∧ Lead (bitW r) c ∧ c < 64 * r.length
set_option maxRecDepth 1000000 in
set_option maxHeartbeats 4000000 in
theorem lead_any {w : World} (v : Value) (r : List Nat) (h : ListAt wordV w v r) (hw : Word r) (hl : r.length ≤ 1000) :
    Calls Tryz.prog 41 #[v] w fun e w' => ∃ z, e = .returned (.int .i64 z) ∧ LeadSays r z ∧ w = w' := by
  have HH : Hid (∀ c : Nat, c < 64 * r.length → Calls Tryz.prog 70 #[v, .int .i64 (c : Int)] w fun e w' => e = .returned (.bool (bitW r c)) ∧ w = w') := Lib.hid fun c hc => by
    have := refHas_any v r (c : Int) h hw (by omega) ⟨by omega, by omega⟩
    rwa [show hasI r (c : Int) = bitW r c by unfold hasI; rw [if_neg (by omega)]; rfl] at this
  have HZ : Hid ((∀ c, c < 64 * r.length → bitW r c = false) → bitW r = vzero) := Lib.hid fun hz => funext fun c => by
    by_cases hc : c < 64 * r.length
    · exact hz c hc
    · exact bitW_out _ _ (by omega)
  obtain ⟨a, cap, rfl, -, -, -⟩ := h
  have HLS : Hid (∀ z, LeadSays r z = LeadSays r z) := Lib.hid fun _ => rfl
  generalize hn : r.length = n at *
  have HN := Lib.hid hn
  clear hw hn
  go_enter Tryz.func41, Tryz.ntmps41
  go_wp2_with fail
  go_loopw [3] (fun i wr => ∃ j : Nat, j ≤ 64 * n ∧ i = .int .i64 j ∧ (∀ t, t < j → bitW r t = false) ∧ w = wr) (fun i _ => 64 * n - (intOf i).toNat)
  case atStart => exact ⟨0, Nat.zero_le _, rfl, fun t ht => by omega, rfl⟩
  case round =>
    obtain ⟨j, hj, rfl, hz, rfl⟩ := hrel
    have HJ := Lib.hid hz
    clear hz
    have hmul : IntKind.i64.wrap (64 * (n : Int)) = 64 * (n : Int) := IntWalk.i64_in _ (by omega)
    by_cases hlt : j < 64 * n
    · have dl : decide ((j : Int) < 64 * (n : Int)) = true := decide_eq_true (by omega)
      have HHJ := Lib.hid (HH.out j hlt)
      cases hb : bitW r j with
      | true =>
        rw [hb] at HHJ
        have HL : Hid (Lead (bitW r) j) := Lib.hid ⟨hb, HJ.out⟩
        clear hb
        go_wp2_with fail
        refine HHJ.out.mono ?_
        rintro e w1 ⟨rfl, rfl⟩
        go_wp2
        go_ret
        exact ⟨_, rfl, .inr ⟨j, rfl, HL.out, by rw [HN.out]; exact hlt⟩, rfl⟩
      | false =>
        rw [hb] at HHJ
        have HNX : Hid (∀ t, t < j + 1 → bitW r t = false) := Lib.hid fun t ht => by
          by_cases e : t = j
          · rw [e]; exact hb
          · exact HJ.out t (by omega)
        clear hb
        go_wp2_with fail
        refine HHJ.out.mono ?_
        rintro e w1 ⟨rfl, rfl⟩
        go_wp2
        go_roundw
        case rel => exact ⟨j + 1, by omega, by go_num, HNX.out, trivial⟩
        case measure => simp [intOf]; omega
    · have dl : decide ((j : Int) < 64 * (n : Int)) = false := decide_eq_false (by omega)
      obtain rfl : j = 64 * n := by omega
      go_wp2
      go_ret
      exact ⟨_, rfl, .inl ⟨rfl, HZ.out HJ.out⟩, rfl⟩
end Go.Proofs.YticoaioeeppapaaGreatDoor
end

section
/- math/bits at this program: Len64 and TrailingZeros64 by the shelf's contracts (laid by lay-shelf and lay-plain, the numbers by name), OnesCount64 by its own text. -/
namespace Go.Proofs.YticoaioeeppapaaGreatDoor
open Go.Shelf

def Tryz.lays129_ren : Go.Shelf.Ren := ⟨fun | 129 => 146 | n => n, fun | 53 => 120 | 3 => 3 | 4 => 4 | 46 => 42 | 5 => 5 | 9 => 9 | n => n, fun | n => n⟩
theorem Tryz.lays129 : Go.Proofs.Lays.n129 Tryz.prog Tryz.lays129_ren := {
  mixed := by kernel_rfl
  f129 := Tryz.func146.trans (congrArg some (by kernel_rfl))
  t3 := Tryz.underlying3
  a3 := Tryz.isAgg3
  z3 := Tryz.sizeOf3
  v3 := Tryz.zeroValue3
  t4 := Tryz.underlying4
  a4 := Tryz.isAgg4
  z4 := Tryz.sizeOf4
  v4 := Tryz.zeroValue4
  t5 := Tryz.underlying5
  a5 := Tryz.isAgg5
  z5 := Tryz.sizeOf5
  v5 := Tryz.zeroValue5
  t9 := Tryz.underlying9
  a9 := Tryz.isAgg9
  z9 := Tryz.sizeOf9
  v9 := Tryz.zeroValue9
  t46 := Tryz.underlying42
  a46 := Tryz.isAgg42
  z46 := Tryz.sizeOf42
  v46 := Tryz.zeroValue42
  t53 := Tryz.underlying120
  a53 := Tryz.isAgg120
  z53 := Tryz.sizeOf120
  v53 := Tryz.zeroValue120 }
/-- Len64, off its contract. -/
theorem Tryz.bits_Len64 (x : Int) (w : World) (h0 : 0 ≤ x) (h1 : x ≤ 18446744073709551615) :
    Calls Tryz.prog 146 #[.int .u64 x] w fun e w' => e = .returned (.int .i64 (Lib.bitLen x.toNat)) ∧ w' = w := Any.bits_Len64 Tryz.lays129 x w h0 h1
def Tryz.lays29_ren : Go.Shelf.Ren := ⟨fun | 29 => 120 | n => n, fun | 22 => 120 | 3 => 3 | 4 => 4 | 25 => 42 | 54 => 207 | 0 => 0 | 5 => 5 | n => n, fun | 1 => 2 | n => n⟩
theorem Tryz.lays29 : Go.Proofs.Lays7.n29 Tryz.prog Tryz.lays29_ren := {
  mixed := by kernel_rfl
  f29 := Tryz.func120.trans (congrArg some (by kernel_rfl))
  t0 := Tryz.underlying0
  a0 := Tryz.isAgg0
  z0 := Tryz.sizeOf0
  v0 := Tryz.zeroValue0
  i0 := by kernel_rfl
  t3 := Tryz.underlying3
  a3 := Tryz.isAgg3
  z3 := Tryz.sizeOf3
  v3 := Tryz.zeroValue3
  i3 := by kernel_rfl
  t4 := Tryz.underlying4
  a4 := Tryz.isAgg4
  z4 := Tryz.sizeOf4
  v4 := Tryz.zeroValue4
  i4 := by kernel_rfl
  t5 := Tryz.underlying5
  a5 := Tryz.isAgg5
  z5 := Tryz.sizeOf5
  v5 := Tryz.zeroValue5
  i5 := by kernel_rfl
  t22 := Tryz.underlying120
  a22 := Tryz.isAgg120
  z22 := Tryz.sizeOf120
  v22 := Tryz.zeroValue120
  i22 := by kernel_rfl
  t25 := Tryz.underlying42
  a25 := Tryz.isAgg42
  z25 := Tryz.sizeOf42
  v25 := Tryz.zeroValue42
  i25 := by kernel_rfl
  t54 := Tryz.underlying207
  a54 := Tryz.isAgg207
  z54 := Tryz.sizeOf207
  g1 := by kernel_rfl }

open Go.RowKit Go.Extern.Stop Go.Stop Go.Extern

/-- The table of bits.TrailingZeros64 lies in its variable. -/
def Tab (w : World) : Prop := TabAt 2 Lib.deBruijn64tab w
theorem Tab.mono {w w' : World} (h : Tab w) (hb : Below w.heap.size w w') : Tab w' := by
  intro j hj
  have hx := h j hj
  rw [hb.cell (p := ⟨2, j, none⟩) (World.block_lt_of_cell? w _ hx)]
  exact hx

theorem Len64_any (x : Nat) (hx : x < 18446744073709551616) (w : World) :
    Calls Tryz.prog 146 #[.int .u64 (x : Int)] w fun e w' => e = .returned (.int .i64 (Lib.bitLen x : Nat)) ∧ w = w' := by
  refine (Tryz.bits_Len64 (x : Int) w (by omega) (by omega)).mono ?_
  rintro e w' ⟨rfl, rfl⟩
  exact ⟨by simp, rfl⟩

theorem Tz64_any (x : Nat) (hx : x < 18446744073709551616) (w : World) (hT : Tab w) :
    Calls Tryz.prog 120 #[.int .u64 (x : Int)] w fun e w' => e = .returned (.int .i64 (Lib.ctz 64 x : Nat)) ∧ w = w' := by
  refine (Any7.bits_TrailingZeros64 Tryz.lays29 x hx w fun _ => hT).mono ?_
  rintro e w' ⟨rfl, rfl⟩
  exact ⟨rfl, rfl⟩

end Go.Proofs.YticoaioeeppapaaGreatDoor
end

section
/- Packages packed and geyserref02, what only reads: Has, Count, First, Size, outside; the document's Has, Bit, In, Size, Both. -/
namespace Go.Proofs.YticoaioeeppapaaGreatDoor
open Go.RowKit Go.Extern.Stop Go.Stop Go.Extern

set_option maxRecDepth 1000000 in
theorem First_any {w : World} (v : Value) (ws : List Nat) (h : ListAt wordV w v ws) (hw : Word ws) (hlen : ws.length ≤ 100000) (hT : Tab w) :
    Calls Tryz.prog 96 #[v] w fun e w' => e = .returned (.int .i64 (firstCol ws)) ∧ w = w' := by
  obtain ⟨a, cap, rfl, hcap, hcm, hcell⟩ := h
  have HC := Lib.hid hcell
  have HW := Lib.hid hw
  have HT := Lib.hid hT
  clear hcell hw hT
  go_enter Tryz.func96, Tryz.ntmps96
  go_wp2
  go_loopw [7] (fun i wr => ∃ k : Nat, k ≤ ws.length ∧ i = .int .i64 k ∧ (∀ j, j < k → ws.getD j 0 = 0) ∧ w = wr) (fun i _ => ws.length - (intOf i).toNat)
  case atStart => exact ⟨0, Nat.zero_le _, rfl, fun j hj => by omega, rfl⟩
  case round =>
    obtain ⟨k, hk, rfl, hz, rfl⟩ := hrel
    have HZ := Lib.hid hz
    clear hz
    by_cases hlt : k < ws.length
    · obtain ⟨b, off, rfl, hcc⟩ := HC.out (by omega)
      have hx : w.cell? ⟨b, off + k, none⟩ = some (.int .u64 (ws[k] : Int)) := hcc k hlt
      have hxlt := HW.out _ (List.getElem_mem hlt)
      have HX : Hid (ws.getD k 0 = ws[k]) := by
        show _ = _
        rw [List.getD_eq_getElem?_getD, List.getElem?_eq_getElem hlt]; rfl
      clear hcc
      generalize ws[k] = x at *
      by_cases hx0 : x = 0
      · subst hx0
        go_wp2
        go_roundw
        case rel => exact ⟨k + 1, by omega, by go_num, fun j hj => by
          by_cases e : j = k
          · rw [e]; exact HX.out
          · exact HZ.out j (by omega), trivial⟩
        case measure => simp [intOf]; omega
      · have hb : (((x : Int)) == 0) = false := by simp; omega
        have hb2 : (((x : Int)) != 0) = true := by simp; omega
        obtain ⟨hk64, -, -⟩ := testBit_ctz x hx0 hxlt
        go_wp2_with fail
        refine (Tz64_any x hxlt _ HT.out).mono ?_
        rintro e w1 ⟨rfl, rfl⟩
        generalize hcz : Lib.ctz 64 x = z at *
        go_wp2
        go_ret
        exact ⟨by rw [firstCol_some ws k hlt HW.out HZ.out (by rw [HX.out]; exact hx0), HX.out, hcz]; go_num, rfl⟩
    · have hk' : k = ws.length := by omega
      go_wp2
      go_ret
      exact ⟨by rw [firstCol_none ws fun i hi => HZ.out i (by omega)]; rfl, rfl⟩


set_option maxRecDepth 1000000 in
theorem outside_any {w : World} (v : Value) (l : List Int) (n : Int) (h : ListAt intV w v l) :
    Calls Tryz.prog 89 #[v, .int .i64 n] w fun e w' => e = .returned (.bool (outI l n)) ∧ w = w' := by
  have hlen := h.len
  obtain ⟨a, cap, rfl, hcap, hcm, hcell⟩ := h
  have HC := Lib.hid hcell
  clear hcell
  go_enter Tryz.func89, Tryz.ntmps89
  go_wp2
  go_loopw [9] (fun i wr => ∃ k : Nat, k ≤ l.length ∧ i = .int .i64 k ∧ (∀ j (hj : j < l.length), j < k → 0 ≤ l[j] ∧ l[j] < n) ∧ w = wr) (fun i _ => l.length - (intOf i).toNat)
  case atStart => exact ⟨0, Nat.zero_le _, rfl, fun j _ hj => by omega, rfl⟩
  case round =>
    obtain ⟨k, hk, rfl, hz, rfl⟩ := hrel
    have HZ := Lib.hid hz
    clear hz
    by_cases hlt : k < l.length
    · obtain ⟨b, off, rfl, hcc⟩ := HC.out (by omega)
      have hx : w.cell? ⟨b, off + k, none⟩ = some (.int .i64 l[k]) := hcc k hlt
      have HM : Hid (l[k] ∈ l) := Lib.hid (List.getElem_mem hlt)
      have HY : Hid (∀ y, l[k] = y → 0 ≤ y ∧ y < n → ∀ j (hj : j < l.length), j < k + 1 → 0 ≤ l[j] ∧ l[j] < n) := Lib.hid fun y e hy j hj hjk => by
        by_cases e2 : j = k
        · subst e2; rw [e]; exact hy
        · exact HZ.out j hj (by omega)
      have HE : Hid (l[k] = l[k]) := Lib.hid rfl
      clear hcc
      generalize l[k] = y at hx HM HY
      clear HE
      by_cases h1 : y < 0
      · go_wp2
        go_ret
        have : outI l n = true := List.any_eq_true.2 ⟨y, HM.out, by simp [h1]⟩
        exact ⟨by rw [this]; rfl, rfl⟩
      · by_cases h2 : y < n
        · go_wp2
          go_roundw
          case rel => exact ⟨k + 1, by omega, by go_num, HY.out y rfl ⟨by omega, h2⟩, trivial⟩
          case measure => simp [intOf]; omega
        · go_wp2
          go_ret
          have : outI l n = true := List.any_eq_true.2 ⟨y, HM.out, by simp; omega⟩
          exact ⟨by rw [this]; rfl, rfl⟩
    · have hk' : k = l.length := by omega
      go_wp2
      go_ret
      have : outI l n = false := by
        unfold outI
        rw [List.any_eq_false]
        intro c hc
        obtain ⟨j, hj, e⟩ := List.getElem_of_mem hc
        have := HZ.out j hj (by omega)
        rw [e] at this
        simp; omega
      exact ⟨by rw [this]; rfl, rfl⟩


theorem Size_any {w : World} (n : Int) (hn : -9223372036854775808 ≤ n ∧ n ≤ 9223372036854775807) :
    Calls Tryz.prog 90 #[.int .i64 n] w fun e w' => e = .returned (.int .i64 (sizeI n)) ∧ w = w' := by
  by_cases h0 : n < 0
  · go_enter Tryz.func90, Tryz.ntmps90
    go_wp2
    go_ret
    exact ⟨by rw [sizeI, if_pos (.inl h0)]; rfl, rfl⟩
  · by_cases h1 : 4096 < n
    · go_enter Tryz.func90, Tryz.ntmps90
      go_wp2
      go_ret
      exact ⟨by rw [sizeI, if_pos (.inr h1)]; rfl, rfl⟩
    · go_enter Tryz.func90, Tryz.ntmps90
      go_wp2
      go_ret
      exact ⟨by rw [sizeI, if_neg (by omega), show n + 63 = n + 64 - 1 by omega]; rfl, rfl⟩

end Go.Proofs.YticoaioeeppapaaGreatDoor
end
