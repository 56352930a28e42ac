/- The walks of the third layer's laws MatrixOrder, MatrixFixed. -/
import Derived.Test.YtlbeobocppmifaaDoorLaw03
import Derived.IntWalk
namespace Go.Proofs.YtlbeobocppmifaaDoor
open Go.RowKit Go.Extern.Stop Go.Stop Go.Extern

/-- Two plain forms with the same sums are the same rows. -/
theorem plain_same {M1 M2 : List (List Nat)} {n : Nat} (h1 : PF (vecs M1)) (h2 : PF (vecs M2)) (h : SpEq (vecs M1) (vecs M2)) (k1 : MatOk M1 n) (k2 : MatOk M2 n) : M1 = M2 :=
  words_of_vecs (k := kOf n) (fun r hr => ⟨k1.words r hr, (k1.whole r hr).1⟩) (fun r hr => ⟨k2.words r hr, (k2.whole r hr).1⟩) (PF_unique h1 h2 h)

set_option maxRecDepth 1000000 in
set_option maxHeartbeats 4000000 in
theorem fixed3 {w : World} (v : Value) (L : List (List Nat)) (n : Int) (h : MatAt wordV w v L) (hw : ∀ r ∈ L, Word r) (hn : I64 n) (hT : Tab w) :
    Calls Tryd.prog 9 #[v, .int .i64 n] w fun e w' => e = .returned (.bool true) ∧ Below w.heap.size w w' := by
  have hlen := h.len
  have HM := Lib.hid h
  have HW := Lib.hid hw
  have HN := Lib.hid hn
  have HT := Lib.hid hT
  obtain ⟨a, cap, rfl, hcap, -, hcell⟩ := h.opens
  have HC := Lib.hid hcell
  clear h hw hn hT hcell
  cases hb : bigB L n with
  | true =>
    have HBG := Lib.hid hb
    clear hb
    go_enter Tryd.func9, Tryd.ntmps9
    go_wp2_with fail
    refine (big_any _ L n HM.out).mono ?_
    rintro e w1 ⟨rfl, rfl⟩
    rw [HBG.out]
    go_wp2_with fail
    refine (awake3 HT.out).mono ?_
    rintro e wz ⟨rfl, hbz⟩
    have HBZ := Lib.hid hbz
    clear hbz
    go_wp2
    go_ret
    exact ⟨rfl, HBZ.out⟩
  | false =>
    have HBG := Lib.hid hb
    by_cases hk : checkM L n = 0
    · obtain ⟨m, rfl, hok⟩ := checkM_zero HW.out hk
      have HOK := Lib.hid hok
      have hll := hok.rows
      clear hb hk hok
      go_enter Tryd.func9, Tryd.ntmps9
      go_wp2_with fail
      refine (big_any _ L (m : Int) HM.out).mono ?_
      rintro e w1 ⟨rfl, rfl⟩
      rw [HBG.out]
      go_wp2_with fail
      refine (Plain_ok _ L m HM.out HOK.out HT.out).mono ?_
      rintro e w1 ⟨rv1, vs1, M1, rfl, hr1, hpf1, hse1, hok1, hb1⟩
      have HR1 := Lib.hid hr1.at
      have HPF1 := Lib.hid hpf1
      have HSE1 := Lib.hid hse1
      have HOK1 := Lib.hid hok1
      have HB1 := Lib.hid hb1
      obtain ⟨a1, c1, rfl, -, -, -⟩ := hr1.at.opens
      clear hr1 hpf1 hse1 hok1 hb1
      go_wp2_with fail
      refine (Plain_ok _ M1 m HR1.out HOK1.out (HT.out.mono HB1.out)).mono ?_
      rintro e w2 ⟨rv2, vs2, M2, rfl, hr2, hpf2, hse2, hok2, hb2⟩
      have hM : M2 = M1 := plain_same hpf2 HPF1.out hse2 hok2 HOK1.out
      subst hM
      have HR2 := Lib.hid hr2.at
      have HR12 := Lib.hid (HR1.out.mono hb2)
      have HB2 := Lib.hid (HB1.out.trans (hb2.mono HB1.out.size))
      obtain ⟨a2, c2, rfl, -, -, -⟩ := hr2.at.opens
      clear hr2 hpf2 hse2 hok2 hb2
      go_wp2_with fail
      go_loopw [9] (fun i wr => ∃ k : Nat, k ≤ L.length ∧ i = .int .i64 k ∧ Below w2.heap.size w2 wr) (fun i _ => L.length - (intOf i).toNat)
      case atStart => exact ⟨0, Nat.zero_le _, rfl, Below.refl _ _⟩
      case round =>
        obtain ⟨k, hkl, rfl, hbel⟩ := hrel
        have HBR := Lib.hid hbel
        have HBW := Lib.hid (HB2.out.trans (hbel.mono HB2.out.size))
        by_cases hlt : k < L.length
        · obtain ⟨b, off, rfl, hcc⟩ := HC.out (by omega)
          obtain ⟨x, hx, hlx⟩ := hcc k hlt
          have HLX := Lib.hid (hlx.mono HBW.out)
          have hx1 := (HBW.out.cell (p := ⟨b, off + k, none⟩) (World.block_lt_of_cell? w _ hx)).trans hx
          have hmem := getD_mem' hlt
          have HOKR : Hid (MatOk [L.getD k []] m) := Lib.hid (HOK.out.sub (fun s hs => by simp only [List.mem_singleton] at hs; subst hs; exact hmem) (by simp))
          have HSP : Hid (Sp (vecs M2) (bitW (L.getD k []))) := Lib.hid ((HSE1.out _).2 (.mem (List.mem_map.2 ⟨_, hmem, rfl⟩)))
          have HRR := Lib.hid (HR12.out.mono hbel)
          clear hcc hx hmem hbel
          generalize L.getD k [] = r at *
          obtain ⟨ax, cx, rfl, -, -, -⟩ := hlx
          go_wp2_with fail
          refine (Spans_ok _ _ M2 r m HRR.out HOK1.out HLX.out HOKR.out (HT.out.mono HBW.out)).mono ?_
          rintro e w3 ⟨bt, rfl, hbt, hb3⟩
          have hbt' : bt = true := hbt.2 HSP.out
          subst hbt'
          have HB3 := Lib.hid (HBR.out.trans (hb3.mono HBR.out.size))
          clear hbt hb3
          go_wp2
          go_roundw
          case rel => exact ⟨k + 1, by omega, by go_num, HB3.out⟩
          case measure => simp [intOf]; omega
        · have HRR := Lib.hid (HR12.out.mono hbel)
          have HR2' := Lib.hid (HR2.out.mono hbel)
          clear hbel
          go_wp2_with fail
          refine (refSame_any _ _ M2 HRR.out HR2'.out).mono ?_
          rintro e w4 ⟨rfl, hb4⟩
          have HB4 := Lib.hid (HBW.out.trans (hb4.mono HBW.out.size))
          clear hb4
          go_wp2_with fail
          refine (awake3 (HT.out.mono HB4.out)).mono ?_
          rintro e wz ⟨rfl, hbz⟩
          have HBZ := Lib.hid (HB4.out.trans (hbz.mono HB4.out.size))
          clear hbz
          go_wp2
          go_ret
          exact ⟨rfl, HBZ.out⟩
    · have HK0 := Lib.hid hk
      generalize hkk : checkM L n = k at *
      have HK := Lib.hid hkk
      clear hb hk hkk
      go_enter Tryd.func9, Tryd.ntmps9
      go_wp2_with fail
      refine (big_any _ L n HM.out).mono ?_
      rintro e w1 ⟨rfl, rfl⟩
      rw [HBG.out]
      go_wp2_with fail
      refine (Plain_bad _ L n HM.out HW.out HN.out (by rw [HK.out]; exact HK0.out)).mono ?_
      rintro e w1 ⟨E1, rfl, hE1, hb1⟩
      rw [HK.out] at hE1
      obtain ⟨ls, hc1⟩ := hE1.chain HK0.out
      have HB1 := Lib.hid hb1
      obtain ⟨u, v, rfl⟩ := hc1.iface
      clear hE1 hc1 hb1
      go_wp2_with fail
      refine (awake3 (HT.out.mono HB1.out)).mono ?_
      rintro e wz ⟨rfl, hbz⟩
      have HBZ := Lib.hid (HB1.out.trans (hbz.mono HB1.out.size))
      clear hbz
      go_wp2
      go_ret
      exact ⟨rfl, HBZ.out⟩

/-! ### MatrixOrder -/
theorem ne_bool3 {k : Int} (h : k ≠ 0) : (k != 0) = true := by simpa using h
def turnTo (L : List (List Nat)) (r k : Nat) : List (List Nat) := (List.range k).map fun i => L.getD ((i + r) % L.length) []
theorem turnTo_succ (L : List (List Nat)) (r k : Nat) : turnTo L r (k + 1) = turnTo L r k ++ [L.getD ((k + r) % L.length) []] := by unfold turnTo; rw [List.range_succ, List.map_append]; rfl
theorem turnTo_length (L : List (List Nat)) (r k : Nat) : (turnTo L r k).length = k := by simp [turnTo]
theorem turn_mem {L : List (List Nat)} {r : Nat} (hr : r ≤ L.length) (s : List Nat) : s ∈ turnTo L r L.length ↔ s ∈ L := by
  unfold turnTo
  rw [List.mem_map]
  constructor
  · rintro ⟨i, hi, rfl⟩
    exact getD_mem' (Nat.mod_lt _ (by have := List.mem_range.1 hi; omega))
  · intro hs
    obtain ⟨j, hj, rfl⟩ := List.getElem_of_mem hs
    have e : L.getD j [] = L[j] := by simp [hj]
    by_cases hjr : r ≤ j
    · refine ⟨j - r, List.mem_range.2 (by omega), ?_⟩
      rw [show j - r + r = j by omega, Nat.mod_eq_of_lt hj]; exact e
    · refine ⟨j + L.length - r, List.mem_range.2 (by omega), ?_⟩
      rw [show j + L.length - r + r = j + L.length by omega, Nat.add_mod_right, Nat.mod_eq_of_lt hj]; exact e

set_option maxRecDepth 1000000 in
set_option maxHeartbeats 4000000 in
theorem order3 {w : World} (v : Value) (L : List (List Nat)) (n y : Int) (h : MatAt wordV w v L) (hw : ∀ r ∈ L, Word r) (hn : I64 n) (hy : I64 y) (hT : Tab w) :
    Calls Tryd.prog 7 #[v, .int .i64 n, .int .i64 y] w fun e w' => e = .returned (.bool true) ∧ Below w.heap.size w w' := by
  obtain ⟨i0, hi0, hz0, hz1, hz2⟩ := info_parts info_row
  have hlen := h.len
  have HM := Lib.hid h
  have HW := Lib.hid hw
  have HN := Lib.hid hn
  have HT := Lib.hid hT
  have HY := Lib.hid hy
  obtain ⟨a, cap, rfl, hcap, -, hcell⟩ := h.opens
  have HC := Lib.hid hcell
  clear h hw hn hT hcell hy
  cases hb : bigB L n with
  | true =>
    have HBG := Lib.hid hb
    clear hb
    go_enter Tryd.func7, Tryd.ntmps7
    go_wp2_with fail
    refine (big_any _ L n HM.out).mono ?_
    rintro e w1 ⟨rfl, rfl⟩
    rw [HBG.out]
    go_wp2_with fail
    refine (awake3 HT.out).mono ?_
    rintro e wz ⟨rfl, hbz⟩
    have HBZ := Lib.hid hbz
    clear hbz
    go_wp2
    go_ret
    exact ⟨rfl, HBZ.out⟩
  | false =>
    have HBG := Lib.hid hb
    by_cases hk : checkM L n = 0
    · obtain ⟨m, rfl, hok⟩ := checkM_zero HW.out hk
      have HOK := Lib.hid hok
      have HK := Lib.hid hk
      obtain ⟨hl20, hm200⟩ := small_of hb hok
      clear hb hk hok
      go_enter Tryd.func7, Tryd.ntmps7
      go_wp2_with fail
      refine (big_any _ L (m : Int) HM.out).mono ?_
      rintro e w1 ⟨rfl, rfl⟩
      rw [HBG.out]
      go_wp2_with fail
      refine (refCheck_any _ L (m : Int) HM.out HW.out).mono ?_
      rintro e w1 ⟨rfl, rfl⟩
      rw [HK.out]
      go_wp2_with fail
      obtain ⟨t, ht, htl⟩ : ∃ t : Nat, (0 < L.length → t = (y % 18446744073709551616).toNat % L.length) ∧ t ≤ L.length := by
        by_cases h0 : 0 < L.length
        · exact ⟨_, fun _ => rfl, Nat.le_of_lt (Nat.mod_lt _ h0)⟩
        · exact ⟨0, fun h => absurd h h0, Nat.zero_le _⟩
      have HTT := Lib.hid ht
      clear ht
      go_loopw [7, 8] (fun o i wr => ∃ k : Nat, k ≤ L.length ∧ i = .int .i64 k ∧ MatOwn wordV 46 w.heap.size 37 wr o (turnTo L t k) ∧ Below w.heap.size w wr) (fun _ i _ => L.length - (intOf i).toNat)
      case atStart => exact ⟨0, Nat.zero_le _, rfl, MatOwn.start w (Nat.le_refl _), (Below.refl _ _).alloc (Nat.le_refl _) _⟩
      case round =>
        obtain ⟨k, hkl, rfl, ⟨vs, hown, hel⟩, hbel⟩ := hrel
        have hsz := hbel.size
        by_cases hlt : k < L.length
        · have hl0 : 0 < L.length := by omega
          obtain ⟨b, off, rfl, hcc⟩ := HC.out hl0
          obtain ⟨q, hq⟩ : ∃ q, (k + t) % L.length = q := ⟨_, rfl⟩
          have hql : q < L.length := by rw [← hq]; exact Nat.mod_lt _ hl0
          obtain ⟨x, hx, hlx⟩ := hcc _ hql
          have hx1 := (hbel.cell (p := ⟨b, off + q, none⟩) (World.block_lt_of_cell? w _ hx)).trans hx
          have e1 : (IntKind.u64.wrap y).tmod (L.length : Int) = (t : Int) := by
            rw [HTT.out hl0, IntKind.wrap_u64, Int.tmod_eq_emod_of_nonneg (Int.emod_nonneg _ (by decide))]
            have e : y % 18446744073709551616 = ((y % 18446744073709551616).toNat : Int) := (Int.toNat_of_nonneg (Int.emod_nonneg _ (by decide))).symm
            rw [e, ← Int.natCast_emod, ← e]
          have e3 : ((k : Int) + (t : Int)) % (L.length : Int) = (q : Int) := by rw [← hq]; rfl
          have e2 : ((k : Int) + (t : Int)).tmod (L.length : Int) = (q : Int) := by rw [Int.tmod_eq_emod_of_nonneg (by omega), e3]
          have HEX : Hid (ElAt wordV 46 w.heap.size wr x (L.getD q [])) := Lib.hid (ElAt.old hlx hbel)
          obtain ⟨ax, cx, rfl, -, -, -⟩ := hlx
          have HQ := Lib.hid (turnTo_length L t k)
          have HO := Lib.hid hown
          rw [turnTo_length] at HO
          have HEL := Lib.hid hel
          have HB := Lib.hid hbel
          have HS : Hid (turnTo L t (k + 1) = turnTo L t k ++ [L.getD q []]) := Lib.hid (by rw [turnTo_succ, hq])
          have hk20 : k ≤ 20 := by omega
          have ht20 : t ≤ 20 := by omega
          clear hcc hx hown hel hbel hq
          generalize (L.getD q []).length = ll at *
          go_wp2_with (at_builtin; refine wpList_append_own _ rfl (.tmp 34) (.tmp 50) 22 rfl w.heap.size 37 i0 (.slice none 0 0) 1 24 Tryd.underlying22 hi0 hz0 hz1 hz2 rfl (by decide) u7 k vs rfl (HO.out.alloc _) ⟨wr.heap.size, 0, none⟩ 1 1 [.slice ax ll cx] rfl rfl (cell_one_new _ _ _) (fun x hx => by simp at hx; subst hx; rfl) (by unfold maxLen; omega) (by omega) (by simp; omega) ?_; intro v2 w2 hown1 hgrow1 _; have hb2 := Lib.hid ((HB.out.alloc hsz _).grown hgrow1 (by simp; omega) (fun k hk => (HO.out.lt k hk).1)); have ho2 : Hid (MatOwn wordV 46 w.heap.size 37 w2 v2 (turnTo L t k ++ [L.getD q []])) := Lib.hid (MatOwn.app (by decide) (by rw [HQ.out]; exact HO.out) HEL.out HEX.out (by rw [HQ.out]; exact hown1) hgrow1); clear hown1 hgrow1)
          go_roundw
          case rel => exact ⟨k + 1, by omega, by go_num, by rw [HS.out]; exact ho2.out, hb2.out⟩
          case measure => simp [intOf]; omega
        · have hk' : k = L.length := by omega
          have hM := MatOwn.at ⟨vs, hown, hel⟩
          rw [hk'] at hM
          have HTU := Lib.hid hM
          have HB := Lib.hid hbel
          have HSQ : Hid (SpEq (vecs (turnTo L t L.length)) (vecs L)) := Lib.hid (SpEq.of_mem fun r => by
            unfold vecs
            rw [List.mem_map, List.mem_map]
            exact ⟨fun ⟨s, hs, e⟩ => ⟨s, (turn_mem htl s).1 hs, e⟩, fun ⟨s, hs, e⟩ => ⟨s, (turn_mem htl s).2 hs, e⟩⟩)
          have HTOK : Hid (MatOk (turnTo L t L.length) m) := Lib.hid (HOK.out.sub (fun s hs => (turn_mem htl s).1 hs) (by rw [turnTo_length]; omega))
          have HRKE : Hid (rk (vecs (turnTo L t L.length)) = rk (vecs L)) := Lib.hid (rk_congr HSQ.out)
          have hRL : rk (vecs L) ≤ L.length := by have := rk_le_length (vecs L); rwa [vecs_length] at this
          have hRm : rk (vecs L) ≤ m := rk_le_cols HOK.out.low
          have HPR : Hid (∀ M, PF (vecs M) → SpEq (vecs M) (vecs L) → M.length = rk (vecs L)) := Lib.hid fun M h1 h2 => by have := h1.rank h2; rwa [vecs_length] at this
          generalize turnTo L t L.length = T at *
          generalize hrr : rk (vecs L) = R at *
          have HRR := Lib.hid hrr
          have hRR : ((R : Int) == (R : Int)) = true := by simp
          obtain ⟨ta, tc, rfl, -, -, -⟩ := hM.opens
          clear hown hel hbel hM hrr
          go_wp2_with fail
          refine (Rank_ok _ L m (HM.out.mono HB.out) HOK.out (HT.out.mono HB.out)).mono ?_
          rintro e w1 ⟨rfl, hb1⟩
          rw [HRR.out]
          have HT1 := Lib.hid (HTU.out.mono hb1)
          have HB1 := Lib.hid (HB.out.trans (hb1.mono HB.out.size))
          clear hb1
          go_wp2_with fail
          refine (Rank_ok _ T m HT1.out HTOK.out (HT.out.mono HB1.out)).mono ?_
          rintro e w2 ⟨rfl, hb2⟩
          rw [HRKE.out]
          have HT2 := Lib.hid (HT1.out.mono hb2)
          have HB2 := Lib.hid (HB1.out.trans (hb2.mono HB1.out.size))
          clear hb2
          go_wp2_with fail
          refine (Plain_ok _ L m (HM.out.mono HB2.out) HOK.out (HT.out.mono HB2.out)).mono ?_
          rintro e w3 ⟨rv1, vs1, M1, rfl, hr1, hpf1, hse1, hok1, hb3⟩
          have HR1 := Lib.hid hr1.at
          have HPF1 := Lib.hid hpf1
          have HSE1 := Lib.hid hse1
          have HOK1 := Lib.hid hok1
          have HT3 := Lib.hid (HT2.out.mono hb3)
          have HB3 := Lib.hid (HB2.out.trans (hb3.mono HB2.out.size))
          have hml : M1.length = R := HPR.out M1 hpf1 hse1
          have hmlb : ((M1.length : Int) == (R : Int)) = true := by rw [hml]; simp
          obtain ⟨a1, c1, rfl, -, -, -⟩ := hr1.at.opens
          clear hr1 hpf1 hse1 hok1 hb3 hml
          go_wp2_with fail
          refine (Plain_ok _ T m HT3.out HTOK.out (HT.out.mono HB3.out)).mono ?_
          rintro e w4 ⟨rv2, vs2, M2, rfl, hr2, hpf2, hse2, hok2, hb4⟩
          have hM : M2 = M1 := plain_same hpf2 HPF1.out ((hse2.trans HSQ.out).trans HSE1.out.symm) hok2 HOK1.out
          subst hM
          have HR2 := Lib.hid hr2.at
          have HR12 := Lib.hid (HR1.out.mono hb4)
          have HB4 := Lib.hid (HB3.out.trans (hb4.mono HB3.out.size))
          obtain ⟨a2, c2, rfl, -, -, -⟩ := hr2.at.opens
          clear hr2 hpf2 hse2 hok2 hb4
          go_wp2_with fail
          refine (refSame_any _ _ M2 HR12.out HR2.out).mono ?_
          rintro e w5 ⟨rfl, hb5⟩
          have HB5 := Lib.hid (HB4.out.trans (hb5.mono HB4.out.size))
          clear hb5
          go_wp2_with fail
          refine (awake3 (HT.out.mono HB5.out)).mono ?_
          rintro e wz ⟨rfl, hbz⟩
          have HBZ := Lib.hid (HB5.out.trans (hbz.mono HB5.out.size))
          clear hbz
          go_wp2
          go_ret
          exact ⟨rfl, HBZ.out⟩
    · have HK0 := Lib.hid hk
      have hkb := ne_bool3 hk
      generalize hkk : checkM L n = k at *
      have HK := Lib.hid hkk
      clear hb hk hkk
      go_enter Tryd.func7, Tryd.ntmps7
      go_wp2_with fail
      refine (big_any _ L n HM.out).mono ?_
      rintro e w1 ⟨rfl, rfl⟩
      rw [HBG.out]
      go_wp2_with fail
      refine (refCheck_any _ L n HM.out HW.out).mono ?_
      rintro e w1 ⟨rfl, rfl⟩
      rw [HK.out]
      go_wp2_with fail
      refine (awake3 HT.out).mono ?_
      rintro e wz ⟨rfl, hbz⟩
      have HBZ := Lib.hid hbz
      clear hbz
      go_wp2
      go_ret
      exact ⟨rfl, HBZ.out⟩
end Go.Proofs.YtlbeobocppmifaaDoor
