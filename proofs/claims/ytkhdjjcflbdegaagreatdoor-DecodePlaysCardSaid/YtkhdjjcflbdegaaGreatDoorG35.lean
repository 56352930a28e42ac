import Derived.Test.YtkhdjjcflbdegaaGreatDoorG31
import Derived.Test.YtkhdjjcflbdegaaGreatDoorG52

section
/- The document's answers for layer 11: down, Rank. -/
namespace Go.Proofs.YtkhdjjcflbdegaaGreatDoor
open Go.RowKit Go.Extern.Stop Go.Stop Go.Extern

/-! ### rows less those that are kept -/
open Classical in
noncomputable def leadV (q : Vec) : Nat := if h : ∃ c, Lead q c then Classical.choose h else 0
theorem leadV_eq {q : Vec} {c : Nat} (h : Lead q c) : leadV q = c := by
  have hx : ∃ c, Lead q c := ⟨c, h⟩
  unfold leadV
  rw [dif_pos hx]
  exact (Classical.choose_spec hx).unique h
noncomputable def redV (Ks : List Vec) (x : Vec) : Vec := Ks.foldl (fun x q => if x (leadV q) = true then vadd x q else x) x
theorem redV_nil (x : Vec) : redV [] x = x := rfl
theorem redV_snoc (Ks : List Vec) (q x : Vec) : redV (Ks ++ [q]) x = if redV Ks x (leadV q) = true then vadd (redV Ks x) q else redV Ks x := by
  unfold redV
  rw [List.foldl_append]
  rfl
def KeptV (Ks : List Vec) : Prop := (∀ q ∈ Ks, ∃ c, Lead q c) ∧ Ks.Pairwise (fun r s => s (leadV r) = false)
theorem KeptV.nil : KeptV [] := ⟨(fun q hq => by cases hq), List.Pairwise.nil⟩
theorem KeptV.snoc {Ks : List Vec} {x : Vec} {c : Nat} (h : KeptV Ks) (hc : Lead x c) (hz : ∀ q ∈ Ks, x (leadV q) = false) : KeptV (Ks ++ [x]) := by
  refine ⟨fun q hq => ?_, ?_⟩
  · rcases List.mem_append.1 hq with hq | hq
    · exact h.1 q hq
    · rw [List.mem_singleton.1 hq]; exact ⟨c, hc⟩
  · rw [List.pairwise_append]
    refine ⟨h.2, List.pairwise_singleton _ _, fun q hq s hs => ?_⟩
    rw [List.mem_singleton.1 hs]
    exact hz q hq
theorem KeptV.ech {Ks : List Vec} (h : KeptV Ks) : Ech Ks := by
  refine ⟨h.1, ?_⟩
  have : ∀ L : List Vec, (∀ q ∈ L, ∃ c, Lead q c) → L.Pairwise (fun r s => s (leadV r) = false) → L.Pairwise (fun r s => ∀ c, Lead r c → ¬ Lead s c) := by
    intro L hL hp
    refine hp.imp fun {r s} hrs c hr hs => ?_
    rw [leadV_eq hr, hs.1] at hrs
    cases hrs
  exact this Ks h.1 h.2
theorem redV_span (Ks : List Vec) (x : Vec) : Sp Ks (vadd (redV Ks x) x) := by
  induction hn : Ks.length generalizing Ks with
  | zero =>
    obtain rfl := List.eq_nil_of_length_eq_zero hn
    rw [redV_nil, vadd_self]
    exact Sp.zero _
  | succ n ih =>
    obtain ⟨L, q, rfl⟩ : ∃ L q, Ks = L ++ [q] := ⟨Ks.dropLast, Ks.getLast (by intro e; simp [e] at hn), (List.dropLast_concat_getLast _).symm⟩
    have h1 := (ih L (by simpa using hn)).sub (m := L ++ [q]) fun r hr => List.mem_append_left _ hr
    rw [redV_snoc]
    split
    · rw [vadd_right]
      exact h1.add (.mem (by simp))
    · exact h1
theorem redV_zero (Ks : List Vec) (h : KeptV Ks) (x : Vec) : ∀ q ∈ Ks, redV Ks x (leadV q) = false := by
  induction hn : Ks.length generalizing Ks with
  | zero =>
    obtain rfl := List.eq_nil_of_length_eq_zero hn
    intro q hq
    cases hq
  | succ n ih =>
    obtain ⟨L, q, rfl⟩ : ∃ L q, Ks = L ++ [q] := ⟨Ks.dropLast, Ks.getLast (by intro e; simp [e] at hn), (List.dropLast_concat_getLast _).symm⟩
    have hp := List.pairwise_append.1 h.2
    have hL : KeptV L := ⟨fun r hr => h.1 r (List.mem_append_left _ hr), hp.1⟩
    have h1 := ih L hL (by simpa using hn)
    obtain ⟨c, hc⟩ := h.1 q (by simp)
    intro r hr
    rw [redV_snoc]
    rcases List.mem_append.1 hr with hr | hr
    · have h2 := h1 r hr
      split
      · unfold vadd
        rw [h2, hp.2.2 r hr q (by simp)]
        rfl
      · exact h2
    · rw [List.mem_singleton.1 hr, leadV_eq hc]
      split
      · rename_i hb
        unfold vadd
        rw [hb, hc.1]
        rfl
      · rename_i hb
        simpa using hb
/-- One row more: it adds what is left of it, or nothing. -/
theorem kept_step {Ks M : List Vec} {x : Vec} (h : KeptV Ks) (hs : SpEq Ks M) :
    (redV Ks x = vzero → SpEq Ks (M ++ [x])) ∧ (∀ c, Lead (redV Ks x) c → KeptV (Ks ++ [redV Ks x]) ∧ SpEq (Ks ++ [redV Ks x]) (M ++ [x])) := by
  have hsp := redV_span Ks x
  constructor
  · intro hz
    rw [hz] at hsp
    have hx : Sp Ks x := by
      have : vadd vzero x = x := by rw [vadd_comm, vadd_zero]
      rwa [this] at hsp
    exact (SpEq.snoc_in hx).symm.trans (hs.snoc x)
  · intro c hc
    refine ⟨h.snoc hc (redV_zero Ks h x), SpEq.trans (SpEq.of (fun r hr => ?_) (fun r hr => ?_)) (hs.snoc x)⟩
    · rcases List.mem_append.1 hr with hr | hr
      · exact .mem (List.mem_append_left _ hr)
      · rw [List.mem_singleton.1 hr]
        exact Sp.of_add (hsp.sub fun y hy => List.mem_append_left _ hy) (.mem (by simp))
    · rcases List.mem_append.1 hr with hr | hr
      · exact .mem (List.mem_append_left _ hr)
      · rw [List.mem_singleton.1 hr]
        have h1 : Sp (Ks ++ [redV Ks x]) (vadd x (redV Ks x)) := by
          rw [vadd_comm]
          exact hsp.sub fun y hy => List.mem_append_left _ hy
        exact Sp.of_add h1 (.mem (by simp))

set_option maxRecDepth 1000000 in
set_option maxHeartbeats 4000000 in
theorem r11down_any {w : World} {B : Nat} (v1 v2 : Value) (r : List Nat) (Ks : List (List Nat)) (n : Nat) (h1 : ElAt wordV 163 B w v1 r) (hr : Word r ∧ r.length = n) (h2 : MatAt wordV w v2 Ks) (hk : ∀ q ∈ Ks, Word q ∧ q.length = n ∧ bitW q ≠ vzero) (hn : n ≤ 64) (hl : Ks.length ≤ 4096) :
    Calls Tryz.prog 52 #[v1, v2] w fun e w' => ∃ v' r', e = .returned v' ∧ ElAt wordV 163 B w' v' r' ∧ Word r' ∧ r'.length = n ∧ bitW r' = redV (vecs Ks) (bitW r) ∧ Below w.heap.size w w' := by
  obtain ⟨i0, hi, hz0, hz1, hz2⟩ := info_parts info_u64
  have H1 := Lib.hid h1
  have HR := Lib.hid hr
  have HK : Hid (∀ j, j < Ks.length → Word (Ks.getD j []) ∧ (Ks.getD j []).length = n ∧ bitW (Ks.getD j []) ≠ vzero) := Lib.hid fun j hj => hk _ (getD_mem' hj)
  have HT : Hid (∀ j, j < Ks.length → vecs (Ks.take (j + 1)) = vecs (Ks.take j) ++ [bitW (Ks.getD j [])]) := Lib.hid fun j hj => by
    rw [List.take_succ_eq_append_getElem hj, vecs_append]
    simp [vecs, List.getD_eq_getElem?_getD, hj]
  have HT0 : Hid (redV (vecs (Ks.take 0)) (bitW r) = bitW r) := Lib.hid rfl
  have HTN : Hid (vecs (Ks.take Ks.length) = vecs Ks) := Lib.hid (by rw [List.take_length])
  obtain ⟨a2, c2, rfl, -, -, hcell⟩ := h2.opens
  have HC := Lib.hid hcell
  obtain ⟨a1, c1, e1, -, -, -⟩ := h1.1
  clear h1 hr h2 hk hcell
  go_enter Tryz.func52, Tryz.ntmps52
  go_wp2_with fail
  go_loopw [0, 5] (fun rv i wr => ∃ (j : Nat) (r' : List Nat), j ≤ Ks.length ∧ i = .int .i64 j ∧ ElAt wordV 163 B wr rv r' ∧ Word r' ∧ r'.length = n ∧ bitW r' = redV (vecs (Ks.take j)) (bitW r) ∧ Below w.heap.size w wr) (fun _ i _ => Ks.length - (intOf i).toNat)
  case atStart => exact ⟨0, r, Nat.zero_le _, rfl, H1.out, HR.out.1, HR.out.2, HT0.out.symm, Below.refl _ _⟩
  case round =>
    obtain ⟨j, r', hj, rfl, hel, hrw, hrl, hrb, hbel⟩ := hrel
    have HEL := Lib.hid hel
    have HRW := Lib.hid hrw
    have HRL := Lib.hid hrl
    have HRB := Lib.hid hrb
    have HBL := Lib.hid hbel
    by_cases hlt : j < Ks.length
    · obtain ⟨bv, ov, rfl, hcc⟩ := HC.out (by omega)
      obtain ⟨x, hx, hlx⟩ := hcc j hlt
      have hx' : wr.cell? ⟨bv, ov + j, none⟩ = some x := (hbel.cell (p := ⟨bv, ov + j, none⟩) (World.block_lt_of_cell? w _ hx)).trans hx
      have hlq := hlx.mono hbel
      obtain ⟨q, hq⟩ : ∃ q, Ks.getD j [] = q := ⟨_, rfl⟩
      obtain ⟨k1, k2, k3⟩ := HK.out j hlt
      have hTJ := HT.out j hlt
      rw [hq] at hlq k1 k2 k3 hTJ
      have HTJ := Lib.hid hTJ
      have HQL := Lib.hid k2
      have HQW := Lib.hid k1
      have HLQ := Lib.hid hlq
      have HLE : Hid (Calls Tryz.prog 53 #[x] wr fun e w' => ∃ c : Nat, e = .returned (.int .i64 (c : Int)) ∧ Lead (bitW q) c ∧ c < 64 * n ∧ wr = w') := Lib.hid (by
        refine (lead_any x q hlq k1 (by omega)).mono ?_
        rintro e w' ⟨z, rfl, hz | ⟨c, rfl, hc1, hc2⟩, rfl⟩
        · exact absurd hz.2 k3
        · exact ⟨c, rfl, hc1, by rw [← k2]; exact hc2, rfl⟩)
      have HHA : Hid (∀ c : Nat, c < 64 * n → Calls Tryz.prog 95 #[u0, .int .i64 (c : Int)] wr fun e w' => e = .returned (.bool (bitW r' c)) ∧ wr = w') := Lib.hid fun c hc => by
        have := refHas_any u0 r' (c : Int) hel.1 hrw (by omega) ⟨by omega, by omega⟩
        rwa [show hasI r' (c : Int) = bitW r' c by unfold hasI; rw [if_neg (by omega)]; rfl] at this
      obtain ⟨ax, cx, hxe, -, -, hxc⟩ := hlq
      have HXC := Lib.hid hxc
      obtain ⟨ar, cr, hre, -, -, hrc⟩ := hel.1
      have HRC := Lib.hid hrc
      rw [k2] at hxe
      rw [hrl] at hre
      subst hxe
      clear hcc hx hlx hq k1 k2 k3 hTJ hxc hel hrw hrl hrb hbel hrc
      subst hre
      go_wp2_with fail
      refine HLE.out.mono ?_
      rintro e w1 ⟨c, rfl, hc1, hc2, rfl⟩
      have HLC := Lib.hid hc1
      have HHC := Lib.hid (HHA.out c hc2)
      clear hc1 hc2
      go_wp2_with fail
      refine HHC.out.mono ?_
      rintro e w1 ⟨rfl, rfl⟩
      cases hb : bitW r' c with
      | true =>
        have HXR : Hid (redV (vecs (Ks.take (j + 1))) (bitW r) = bitW (xorW r' q)) := Lib.hid (by
          rw [HTJ.out, redV_snoc, ← HRB.out, leadV_eq HLC.out, if_pos hb, bitW_vadd (by rw [HRL.out, HQL.out])])
        have HXW := Lib.hid (Word.xor HRW.out HQW.out)
        have HXL : Hid ((xorW r' q).length = n) := Lib.hid (by rw [xorW_length (by rw [HRL.out, HQL.out]), HRL.out])
        have HXG : Hid (∀ t, t < n → (xorW r' q).take (t + 1) = (xorW r' q).take t ++ [r'.getD t 0 ^^^ q.getD t 0]) := Lib.hid fun t ht => by
          have hl : t < (xorW r' q).length := by rw [HXL.out]; exact ht
          rw [List.take_succ_eq_append_getElem hl, ← xorW_getD (by rw [HRL.out, HQL.out])]
          simp [List.getD_eq_getElem?_getD, hl]
        have HXT : Hid ((xorW r' q).take n = xorW r' q) := Lib.hid (List.take_of_length_le (by rw [HXL.out]; exact Nat.le_refl _))
        have HXZ : Hid ((xorW r' q).take 0 = []) := Lib.hid List.take_zero
        clear hb
        generalize xorW r' q = X at *
        obtain ⟨wo, hwo⟩ : ∃ wo, wo = wr := ⟨_, rfl⟩
        subst hwo
        go_wp2_with fail
        go_loopw [6, 7] (fun o i wr => ∃ t : Nat, t ≤ n ∧ i = .int .i64 t ∧ wr.ownsRow wo.heap.size 163 1 o t ((X.take t).map wordV) ∧ Below wo.heap.size wo wr) (fun _ i _ => n - (intOf i).toNat)
        case atStart => exact ⟨0, Nat.zero_le _, rfl, by rw [HXZ.out]; exact World.ownsRow_made (base := wo.heap.size) (e := 163) (size := 1) wo #[] 0 (Nat.le_refl _) (by decide) rfl, (Below.refl _ _).alloc (Nat.le_refl _) _⟩
        case round =>
          obtain ⟨t, ht, rfl, hown, hbel⟩ := hrel
          have HO := Lib.hid hown
          have HB := Lib.hid hbel
          obtain ⟨ao, co, rfl, -, -⟩ := own_open hown
          by_cases htn : t < n
          · obtain ⟨br, or, rfl, hrc⟩ := HRC.out (by rw [HRL.out]; omega)
            obtain ⟨bq, oq, rfl, hqc⟩ := HXC.out (by rw [HQL.out]; omega)
            have hbd := hbel.drew
            have hy1 : wr.drew.cell? ⟨br, or + t, none⟩ = some (.int .u64 ((r'.getD t 0 : Nat) : Int)) := by
              have hl : t < r'.length := by rw [HRL.out]; exact htn
              have h0 := hrc t hl
              rw [hbd.cell (p := ⟨br, or + t, none⟩) (World.block_lt_of_cell? wo _ h0), h0]
              simp [List.getD_eq_getElem?_getD, hl, wordV]
            have hy2 : wr.drew.cell? ⟨bq, oq + t, none⟩ = some (.int .u64 ((q.getD t 0 : Nat) : Int)) := by
              have hl : t < q.length := by rw [HQL.out]; exact htn
              have h0 := hqc t hl
              rw [hbd.cell (p := ⟨bq, oq + t, none⟩) (World.block_lt_of_cell? wo _ h0), h0]
              simp [List.getD_eq_getElem?_getD, hl, wordV]
            have hy3 : wr.drew.cell? ⟨bv, ov + j, none⟩ = some (.slice (some ⟨bq, oq, none⟩) n cx) := (hbd.cell (p := ⟨bv, ov + j, none⟩) (World.block_lt_of_cell? wo _ hx')).trans hx'
            have hbx := bits_xor_u64_nat (r'.getD t 0) (q.getD t 0) (HRW.out.getD t) (HQW.out.getD t)
            have HXS := Lib.hid (HXG.out t htn)
            have HOD := Lib.hid (owns_kept hown ((Below.refl wr.heap.size wr).drew))
            have HBD := Lib.hid hbd
            have hszd : wo.heap.size ≤ wr.heap.size := hbd.size
            clear hrc hqc hown hbel hbd hx'
            generalize r'.getD t 0 = y1 at *
            generalize q.getD t 0 = y2 at *
            go_wp2_with fail
            go_region_law (refine step_append_lies _ rfl (.tmp 28) (.tmp 41) 79 rfl wo.heap.size 163 i0 (.int .u64 0) 1 8 Tryz.underlying79 hi hz0 hz1 hz2 rfl (by decide) (.slice ao t co) t ((X.take t).map wordV) (by simp [Act.eval]) (HOD.out.alloc _) ⟨wr.heap.size, 0, none⟩ 1 1 [.int .u64 ((y1 ^^^ y2 : Nat) : Int)] (by simp [Act.eval]) rfl (cell_one_new _ _ _) (fun x hx => by simp at hx; subst hx; rfl) (by decide) (by unfold maxLen; omega) (by omega) (by simp; omega) _ rfl ?_; intro g2 q2 w6 hown1 hgrow1 _ _; have HB6 := Lib.hid ((HBD.out.alloc hszd _).grown hgrow1 (by simp; omega) (fun k hk => (HOD.out.lt k hk).1)); have HO6 := Lib.hid hown1; clear hown1 hgrow1)
            all_goals go_wp2
            all_goals exact ⟨⟨t + 1, by omega, by go_num, by rw [HXS.out, List.map_append]; exact HO6.out, HB6.out⟩, by simp [intOf]; omega⟩
          · obtain rfl : t = n := by omega
            clear hown hbel
            go_wp2
            go_roundw
            case rel => exact ⟨j + 1, X, by omega, by go_num, ElAt.own (by have := HO.out; rw [HXT.out] at this; exact this), HXW.out, HXL.out, HXR.out.symm, HBL.out.trans (HB.out.mono HBL.out.size)⟩
            case measure => simp [intOf]; omega
      | false =>
        have HXR : Hid (redV (vecs (Ks.take (j + 1))) (bitW r) = bitW r') := Lib.hid (by
          rw [HTJ.out, redV_snoc, ← HRB.out, leadV_eq HLC.out, if_neg (by rw [hb]; decide)])
        clear hb
        go_wp2
        go_roundw
        case rel => exact ⟨j + 1, r', by omega, by go_num, HEL.out, HRW.out, HRL.out, HXR.out.symm, HBL.out⟩
        case measure => simp [intOf]; omega
    · obtain rfl : j = Ks.length := by omega
      clear hel hrw hrl hrb hbel
      go_wp2
      go_ret
      exact ⟨_, r', rfl, HEL.out, HRW.out, HRL.out, by rw [← HTN.out]; exact HRB.out, HBL.out⟩
end Go.Proofs.YtkhdjjcflbdegaaGreatDoor
end

section
/- The document's answers for layer 11: Rank. -/
namespace Go.Proofs.YtkhdjjcflbdegaaGreatDoor
open Go.RowKit Go.Extern.Stop Go.Stop Go.Extern

set_option maxRecDepth 1000000 in
set_option maxHeartbeats 4000000 in
theorem r11Rank_any {w : World} (k s h l p seed : Nat) (v : Value) (ns : List Nat) (H : OfP k s h l p) (hk1 : 1 ≤ k) (hk2 : k ≤ 128) (hs : seed < 65536) (hv : ListAt colV w v ns) (he : ∀ e ∈ ns, e < 65536) (hl : ns.length ≤ 4000) :
    Calls Tryz.prog 28 #[parV k s h l p, .int .i64 (seed : Int), v] w fun e w' => e = .returned (.int .i64 (rankA k s h l p seed ns : Nat)) ∧ Below w.heap.size w w' := by
  obtain ⟨i0, hi, hz0, hz1, hz2⟩ := info_parts info_row
  obtain ⟨b1, b2, b3, b4, b5, b6, b7⟩ := H.bounds hk1 hk2
  obtain ⟨w0, hw0, hb0, hbx⟩ := par_laid w k s h l p
  have HW0 := Lib.hid hw0
  have HB0 := Lib.hid hb0
  obtain ⟨c0, c1, c2, c3, c4⟩ := hbx.cells
  have HP : Hid (Calls Tryz.prog 51 #[.agg #[.int .i64 (k : Int), .int .i64 (s : Int), .int .i64 (h : Int), .int .i64 (l : Int), .int .i64 (p : Int)], .int .i64 (seed : Int), v] w0 fun e w' => ∃ v', e = .returned v' ∧ MatFresh wordV 163 w0.heap.size 79 w' v' (packL l (rowsA k s h l p seed ns)) ∧ Below w0.heap.size w0 w') := Lib.hid (r11Rows_any k s h l p seed v ns H hk1 hk2 hs (hv.mono hb0) he hl)
  have HOK := Lib.hid (rowsA_matok (p := p) (seed := seed) (ns := ns) H.2.2.1 (by omega) (by omega))
  have HRK := Lib.hid (rankA_words (p := p) (seed := seed) (ns := ns) H.2.2.1)
  have hkn : kOf l ≤ 64 := kOf_le (by omega)
  obtain ⟨av, cv, rfl, -, -, -⟩ := hv
  clear hw0 hb0 hbx H hk1 hk2 hs he b1 b2 b3 b4 b5 b6 b7 hl
  generalize packL l (rowsA k s h l p seed ns) = M at *
  generalize rankA k s h l p seed ns = q at *
  unfold parV parC
  go_enter Tryz.func28, Tryz.ntmps28
  go_upto_region 1 with fail
  rw [← HW0.out]
  go_wp2_with fail
  refine HP.out.mono ?_
  rintro e w1 ⟨v1, rfl, hm1, hb1⟩
  have hmat := hm1.own.at
  obtain ⟨a1, q1, rfl, -, -, hcell⟩ := hmat.opens
  have HC := Lib.hid hcell
  have HB1 := Lib.hid (HB0.out.trans (hb1.mono HB0.out.size))
  have HMR : Hid (∀ j, j < M.length → Word (M.getD j []) ∧ (M.getD j []).length = kOf l) := Lib.hid fun j hj => ⟨HOK.out.words _ (getD_mem' hj), (HOK.out.whole _ (getD_mem' hj)).1⟩
  have HMT : Hid (∀ j, j < M.length → vecs (M.take (j + 1)) = vecs (M.take j) ++ [bitW (M.getD j [])]) := Lib.hid fun j hj => by
    rw [List.take_succ_eq_append_getElem hj, vecs_append]
    simp [vecs, List.getD_eq_getElem?_getD, hj]
  have HMN : Hid (vecs (M.take M.length) = vecs M) := Lib.hid (by rw [List.take_length])
  have HM0 : Hid (vecs (M.take 0) = []) := Lib.hid rfl
  have hml := HOK.out.rows
  clear hm1 hmat hb1 hcell c0 c1 c2 c3 c4
  generalize kOf l = kl at *
  go_wp2_with fail
  go_loopw [8, 9] (fun o i wr => ∃ (j : Nat) (Kw : List (List Nat)), j ≤ M.length ∧ i = .int .i64 j ∧ MatOwn wordV 163 w1.heap.size 79 wr o Kw ∧ KeptV (vecs Kw) ∧ SpEq (vecs Kw) (vecs (M.take j)) ∧ Kw.length ≤ j ∧ (∀ q ∈ Kw, Word q ∧ q.length = kl ∧ bitW q ≠ vzero) ∧ Below w1.heap.size w1 wr) (fun _ i _ => M.length - (intOf i).toNat)
  case atStart => exact ⟨0, [], Nat.zero_le _, rfl, MatOwn.start w1 (Nat.le_refl _), KeptV.nil, by rw [HM0.out]; exact SpEq.refl _, Nat.le_refl _, (fun q hq => by cases hq), (Below.refl _ _).alloc (Nat.le_refl _) _⟩
  case round =>
    obtain ⟨j, Kw, hj, rfl, hmo, hkv, hse, hkl, hkq, hbel⟩ := hrel
    have HMO := Lib.hid hmo
    have HKV := Lib.hid hkv
    have HSE := Lib.hid hse
    have HKQ := Lib.hid hkq
    have HBL := Lib.hid hbel
    have HBW := Lib.hid (HB1.out.trans (hbel.mono HB1.out.size))
    by_cases hlt : j < M.length
    · obtain ⟨bv, ov, rfl, hcc⟩ := HC.out (by omega)
      obtain ⟨x, hx, hlx⟩ := hcc j hlt
      have hx' : wr.cell? ⟨bv, ov + j, none⟩ = some x := (hbel.cell (p := ⟨bv, ov + j, none⟩) (World.block_lt_of_cell? w1 _ hx)).trans hx
      have HDN := Lib.hid (r11down_any (B := w1.heap.size) x u8 (M.getD j []) Kw kl (ElAt.old hlx hbel) (HMR.out j hlt) hmo.at hkq hkn (by omega))
      have hst := kept_step (x := bitW (M.getD j [])) hkv hse
      rw [← HMT.out j hlt] at hst
      have HST := Lib.hid hst
      obtain ⟨ax, cx, hxe, -, -, -⟩ := hlx
      subst hxe
      clear hcc hx hmo hkv hse hkq hbel hst
      generalize (M.getD j []).length = rl at *
      generalize bitW (M.getD j []) = xb at *
      go_wp2_with fail
      refine HDN.out.mono ?_
      rintro e w2 ⟨v2, r2, rfl, hel2, hw2, hl2, hb2, hbb2⟩
      have HEL2 := Lib.hid hel2
      have HW2 := Lib.hid hw2
      have HL2 := Lib.hid hl2
      have HBB2 := Lib.hid (HBL.out.trans (hbb2.mono HBL.out.size))
      have HMO2 := Lib.hid (HMO.out.mono hbb2)
      have HLE := Lib.hid (lead_any v2 r2 hel2.1 hw2 (by omega))
      have HR2 := Lib.hid hb2
      obtain ⟨a2, q2, hve, -, -, -⟩ := hel2.1
      subst hve
      clear hel2 hw2 hl2 hbb2 hb2 hx'
      go_wp2_with fail
      refine HLE.out.mono ?_
      rintro e w3 ⟨z, rfl, hz, rfl⟩
      rcases hz with ⟨rfl, hz⟩ | ⟨c, rfl, hlc, -⟩
      · have HSZ := Lib.hid (HST.out.1 (by rw [← HR2.out]; exact hz))
        clear hz
        go_wp2
        go_roundw
        case rel => exact ⟨j + 1, Kw, by omega, by go_num, HMO2.out, HKV.out, HSZ.out, by omega, HKQ.out, HBB2.out⟩
        case measure => simp [intOf]; omega
      · have HSC : Hid (KeptV (vecs (Kw ++ [r2])) ∧ SpEq (vecs (Kw ++ [r2])) (vecs (M.take (j + 1)))) := Lib.hid (by
          have := HST.out.2 c (by rw [← HR2.out]; exact hlc)
          rw [← HR2.out] at this
          rw [vecs_append]
          exact this)
        have HNZ : Hid (∀ q ∈ Kw ++ [r2], Word q ∧ q.length = kl ∧ bitW q ≠ vzero) := Lib.hid fun q hq => by
          rcases List.mem_append.1 hq with hq | hq
          · exact HKQ.out q hq
          · rw [List.mem_singleton.1 hq]
            exact ⟨HW2.out, HL2.out, hlc.ne⟩
        obtain ⟨vs, hvs, hes⟩ := HMO2.out
        have HVS := Lib.hid hvs
        have HES := Lib.hid hes
        obtain ⟨nk, hnk⟩ : ∃ nk, Kw.length = nk := ⟨_, rfl⟩
        rw [hnk] at HVS
        have HNK := Lib.hid hnk
        have hnk2 : nk ≤ 4096 := by omega
        have hsz2 := HBB2.out.size
        have hcz : ((0 : Int) ≤ (c : Int)) := by omega
        clear hlc hvs hes hnk
        obtain ⟨rn, hrn⟩ : ∃ rn, r2.length = rn := ⟨_, rfl⟩
        rw [hrn] at HEL2 ⊢
        go_wp2_with (at_builtin; refine wpList_append_own _ rfl (.tmp 31) (.tmp 33) 76 rfl w1.heap.size 79 i0 (.slice none 0 0) 1 24 Tryz.underlying76 hi hz0 hz1 hz2 rfl (by decide) u8 nk vs rfl (HVS.out.alloc _) ⟨w2.heap.size, 0, none⟩ 1 1 [.slice a2 rn q2] rfl rfl (cell_one_new _ _ _) (fun x hx => by simp at hx; subst hx; rfl) (by unfold maxLen; omega) (by omega) (by simp; omega) ?_; intro v6 w6 hown1 hgrow1 _; have HB6 := Lib.hid ((HBB2.out.alloc hsz2 _).grown hgrow1 (by simp; omega) (fun k hk => (HVS.out.lt k hk).1)); have HM6 : Hid (MatOwn wordV 163 w1.heap.size 79 w6 v6 (Kw ++ [r2])) := Lib.hid (MatOwn.app (by decide) (by rw [HNK.out]; exact HVS.out) HES.out HEL2.out (by rw [HNK.out]; exact hown1) hgrow1); clear hown1 hgrow1)
        go_roundw
        case rel => exact ⟨j + 1, Kw ++ [r2], by omega, by go_num, HM6.out, HSC.out.1, HSC.out.2, by rw [List.length_append, HNK.out, List.length_singleton]; have := HNK.out; omega, HNZ.out, HB6.out⟩
        case measure => simp [intOf]; omega
    · obtain rfl : j = M.length := by omega
      have HRE : Hid (Kw.length = q) := Lib.hid (by
        have h1 := rk_eq hkv.ech hse
        rw [HMN.out, HRK.out, vecs_length] at h1
        exact h1)
      obtain ⟨ao, co, hoe, -⟩ := hmo.at.opens
      rw [HRE.out] at hoe
      clear hmo hkv hse hkl hkq hbel
      subst hoe
      go_wp2
      go_ret
      exact ⟨rfl, HBW.out⟩
end Go.Proofs.YtkhdjjcflbdegaaGreatDoor
end
