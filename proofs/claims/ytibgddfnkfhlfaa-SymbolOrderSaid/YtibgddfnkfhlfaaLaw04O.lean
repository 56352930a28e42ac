/- The walk of the fourth layer's law SymbolOrder. -/
import Derived.Test.YtibgddfnkfhlfaaLaw04
import Derived.Test.YtibgddfnkfhlfaaSyC
namespace Go.Proofs.Ytibgddfnkfhlfaa
open Go.RowKit Go.Extern.Stop Go.Stop Go.Extern

def turnTo (L : List (List Nat)) (r k : Nat) : List (List Nat) := (List.range k).map fun i => L.getD ((i + r) % L.length) []
theorem turnTo_succ (L : List (List Nat)) (r k : Nat) : turnTo L r (k + 1) = turnTo L r k ++ [L.getD ((k + r) % L.length) []] := by unfold turnTo; rw [List.range_succ, List.map_append]; rfl
theorem turnTo_length (L : List (List Nat)) (r k : Nat) : (turnTo L r k).length = k := by simp [turnTo]
theorem turnTo_all {L : List (List Nat)} {r : Nat} (hr : r ≤ L.length) : turnTo L r L.length = L.drop r ++ L.take r := by
  apply List.ext_getElem
  · rw [turnTo_length]; simp; omega
  · intro i h1 h2
    rw [turnTo_length] at h1
    simp only [turnTo, List.getElem_map, List.getElem_range, List.getElem_append, List.length_drop]
    by_cases h : i < L.length - r
    · rw [dif_pos h, Nat.mod_eq_of_lt (by omega), List.getElem_drop, List.getD_eq_getElem?_getD, List.getElem?_eq_getElem (by omega)]
      simp [Nat.add_comm]
    · rw [dif_neg h, show i + r = (i + r - L.length) + L.length by omega, Nat.add_mod_right, Nat.mod_eq_of_lt (by omega), List.getElem_take, List.getD_eq_getElem?_getD, List.getElem?_eq_getElem (by omega)]
      simp only [Option.getD_some]
      congr 1; omega
theorem colX_turn {L : List (List Nat)} {r : Nat} (hr : r ≤ L.length) (j : Nat) : colX (turnTo L r L.length) j = colX L j := by
  rw [turnTo_all hr, colX_append, Nat.xor_comm, ← colX_append, List.take_append_drop]
theorem turn_sub {L : List (List Nat)} {r : Nat} (hr : r ≤ L.length) : ∀ s ∈ turnTo L r L.length, s ∈ L := by
  intro s hs
  rw [turnTo_all hr] at hs
  rcases List.mem_append.1 hs with h | h
  · exact List.mem_of_mem_drop h
  · exact List.mem_of_mem_take h

theorem zeroB_self {m : Nat} {L : List (List Nat)} : zeroB (sumB m (L ++ [sumB m L])) = true := by
  unfold zeroB
  rw [List.all_eq_true]
  intro x hx
  obtain ⟨j, hj, rfl⟩ := List.mem_map.1 hx
  rw [colX_append, colX_one, sumB_getD (List.mem_range.1 hj), Nat.xor_self]
  rfl

/-- Some rows more. -/
theorem MatOwn.many {α : Type} {f : α → Value} {w w2 : World} {v v2 : Value} {L R : List (List α)} {te e : TypeId} {base n : Nat} {vs xs : List Value} {o : Obj} (hne : e ≠ te) (hown : w.ownsRow base e 1 v L.length vs)
    (hel : ∀ i, ElAt f te base w (vs.getD i nilS) (L.getD i [])) (hx : ∀ i, ElAt f te base w (xs.getD i nilS) (R.getD i []))
    (hown' : w2.ownsRow base e 1 v2 n (vs ++ xs)) (hn : n = (L ++ R).length) (hg : (w.alloc o).grownBy w2 v.ownBlock) : MatOwn f te base e w2 v2 (L ++ R) := by
  have hl : vs.length = L.length := by have := hown.1; omega
  have hb : Below w.heap.size w (w.alloc o) := (Below.refl _ _).alloc (Nat.le_refl _) _
  subst hn
  refine ⟨vs ++ xs, hown', fun i => ?_⟩
  by_cases h : i < L.length
  · have e1 : (vs ++ xs).getD i nilS = vs.getD i nilS := by rw [List.getD_eq_getElem?_getD, List.getElem?_append_left (by omega), ← List.getD_eq_getElem?_getD]
    have e2 : (L ++ R).getD i [] = L.getD i [] := by rw [List.getD_eq_getElem?_getD, List.getElem?_append_left h, ← List.getD_eq_getElem?_getD]
    rw [e1, e2]
    exact ((hel i).mono hb).grown hne (hown.alloc o) hg
  · have e1 : (vs ++ xs).getD i nilS = xs.getD (i - L.length) nilS := by rw [List.getD_eq_getElem?_getD, List.getElem?_append_right (by omega), hl, ← List.getD_eq_getElem?_getD]
    have e2 : (L ++ R).getD i [] = R.getD (i - L.length) [] := by rw [List.getD_eq_getElem?_getD, List.getElem?_append_right (by omega), ← List.getD_eq_getElem?_getD]
    rw [e1, e2]
    exact ((hx _).mono hb).grown hne (hown.alloc o) hg

theorem cells_new {w : World} (xs : List Value) (t : TypeId) : ∀ j u, xs[j]? = some u → (w.alloc (.cells xs.toArray t)).cell? ((⟨w.heap.size, 0, none⟩ : Addr).add j) = some u := by
  intro j u hu
  rw [Go.WideShapes.add_plain, Nat.zero_add, World.cell?_alloc_at _ _ _ _ (by simp)]
  simpa using hu
theorem slice_one {f : Nat → Value} {te : TypeId} {b : Nat} {w : World} {x : Value} {r : List Nat} (h : ElAt f te b w x r) : x.oneCell' = true := by
  obtain ⟨a, cap, rfl, -⟩ := h.1
  rfl

theorem ElAt.two {w : World} {te : TypeId} {b : Nat} {x : Value} {r : List Nat} (h : ElAt byteV te b w x r) : ∀ i, ElAt byteV te b w (([x, x] : List Value).getD i nilS) (([r, r] : List (List Nat)).getD i []) := by
  intro i
  match i with
  | 0 => exact h
  | 1 => exact h
  | i + 2 => exact ElAt.nil _ _ _ _
theorem with_two {T : List (List Nat)} {S : List Nat} {p : List Nat → Prop} (h : ∀ r ∈ T, p r) (hs : p S) : ∀ r ∈ T ++ [S, S], p r := by
  intro r hr
  rcases List.mem_append.1 hr with h1 | h1
  · exact h r h1
  · have : r = S := by simpa using h1
    rw [this]; exact hs
theorem with_one {T : List (List Nat)} {S : List Nat} {p : List Nat → Prop} (h : ∀ r ∈ T, p r) (hs : p S) : ∀ r ∈ T ++ [S], p r := by
  intro r hr
  rcases List.mem_append.1 hr with h1 | h1
  · exact h r h1
  · have : r = S := by simpa using h1
    rw [this]; exact hs

set_option maxRecDepth 1000000 in
set_option maxHeartbeats 8000000 in
theorem order4 {w : World} (v : Value) (L : List (List Nat)) (n y : Int) (h : MatAt byteV w v L) (hw : ∀ r ∈ L, Octets r) (hn : I64 n) (hy : I64 y) (hL : L.length * 24 ≤ reachBytes) :
    Calls Try.prog 3 #[v, .int .i64 n, .int .i64 y] w fun e w' => e = .returned (.bool true) ∧ Below w.heap.size w w' := by
  obtain ⟨i0, hi0, hz0, hz1, hz2⟩ := info_parts info_sym
  have hL2 : L.length * 24 ≤ 140737488351232 := by have := hL; unfold reachBytes at this; omega
  have HM := Lib.hid h
  have HW := Lib.hid hw
  have HN := Lib.hid hn
  have HY := Lib.hid hy
  obtain ⟨vs0, hvs0, hvl0, hel0⟩ := h
  have hM : MatAt byteV w v L := ⟨vs0, hvs0, hvl0, hel0⟩
  have HVS := Lib.hid hvs0
  have HVL := Lib.hid hvl0
  have HEL0 := Lib.hid hel0
  have HSL := Lib.hid (MatAt.slices hel0)
  obtain ⟨a, cap, rfl, hcap, -, hcell⟩ := hM.opens
  have HC := Lib.hid hcell
  clear hw hn hcell hy hL hM hvs0 hvl0 hel0
  by_cases hk : checkS L n = 0
  · obtain ⟨m, rfl, hm1, hm2, hrl⟩ := checkS_zero hk
    have HRL := Lib.hid hrl
    clear hk hrl
    go_enter Try.func3, Try.ntmps3
    go_wp2_with fail
    refine (Sum_ok _ L m HM.out hm1 hm2 HRL.out HW.out).mono ?_
    rintro e w1 ⟨v1, rfl, ho1, hb1⟩
    have HA1 : Hid (ElAt byteV 5 w1.heap.size w1 v1 (sumB m L)) := Lib.hid (ElAt.own ho1)
    have HSO := Lib.hid (sumB_octets HW.out m)
    have HSLN := Lib.hid (sumB_length m L)
    have HELW := Lib.hid (fun i => (HEL0.out i).mono hb1)
    have HVSW := Lib.hid (HVS.out.mono hb1)
    have HMW := Lib.hid (HM.out.mono hb1)
    have HB1 := Lib.hid hb1
    have hsz1 := hb1.size
    obtain ⟨ao, co, rfl, -, -⟩ := own_open ho1
    clear ho1 hb1
    go_wp2_with fail
    obtain ⟨t, ht, htl⟩ : ∃ t : Nat, (0 < L.length → t = (y % 18446744073709551616).toNat % L.length) ∧ t ≤ L.length := by
      by_cases h0 : 0 < L.length
      · exact ⟨_, fun _ => rfl, Nat.le_of_lt (Nat.mod_lt _ h0)⟩
      · exact ⟨0, fun h => absurd h h0, Nat.zero_le _⟩
    have HTT := Lib.hid ht
    clear ht
    go_loopw [9, 10] (fun o i wr => ∃ k : Nat, k ≤ L.length ∧ i = .int .i64 k ∧ MatOwn byteV 5 w1.heap.size 23 wr o (turnTo L t k) ∧ Below w1.heap.size w1 wr) (fun _ i _ => L.length - (intOf i).toNat)
    case atStart => exact ⟨0, Nat.zero_le _, rfl, MatOwn.start w1 (Nat.le_refl _), (Below.refl _ _).alloc (Nat.le_refl _) _⟩
    case round =>
      obtain ⟨k, hkl, rfl, ⟨vs, hown, hel⟩, hbel⟩ := hrel
      have hsz := hbel.size
      have HB := Lib.hid hbel
      have HEL := Lib.hid hel
      have HO := Lib.hid hown
      rw [turnTo_length] at HO
      by_cases hlt : k < L.length
      · have hl0 : 0 < L.length := by omega
        obtain ⟨b, off, rfl, hcc⟩ := HC.out hl0
        obtain ⟨q, hq⟩ : ∃ q, (k + t) % L.length = q := ⟨_, rfl⟩
        have hql : q < L.length := by rw [← hq]; exact Nat.mod_lt _ hl0
        obtain ⟨x, hx, hlx⟩ := hcc _ hql
        have hx1 := ((HB1.out.trans (hbel.mono hsz1)).cell (p := ⟨b, off + q, none⟩) (World.block_lt_of_cell? w _ hx)).trans hx
        have e1 : (IntKind.u64.wrap y).tmod (L.length : Int) = (t : Int) := by
          rw [HTT.out hl0, IntKind.wrap_u64, Int.tmod_eq_emod_of_nonneg (Int.emod_nonneg _ (by decide))]
          have e : y % 18446744073709551616 = ((y % 18446744073709551616).toNat : Int) := (Int.toNat_of_nonneg (Int.emod_nonneg _ (by decide))).symm
          rw [e, ← Int.natCast_emod, ← e]
        have e3 : ((k : Int) + (t : Int)) % (L.length : Int) = (q : Int) := by rw [← hq]; rfl
        have e2 : ((k : Int) + (t : Int)).tmod (L.length : Int) = (q : Int) := by rw [Int.tmod_eq_emod_of_nonneg (by omega), e3]
        have HEX : Hid (ElAt byteV 5 w1.heap.size wr x (L.getD q [])) := Lib.hid (ElAt.old (hlx.mono HB1.out) hbel)
        obtain ⟨ax, cx, rfl, -, -, -⟩ := hlx
        have HQ := Lib.hid (turnTo_length L t k)
        have HS : Hid (turnTo L t (k + 1) = turnTo L t k ++ [L.getD q []]) := Lib.hid (by rw [turnTo_succ, hq])
        have hk20 : k ≤ 5864062014634 := by omega
        have ht20 : t ≤ 5864062014634 := by omega
        clear hcc hx hown hel hbel hq
        generalize (L.getD q []).length = ll at *
        go_wp2_with (at_builtin; refine wpList_append_own _ rfl (.tmp 38) (.tmp 54) 22 rfl w1.heap.size 23 i0 (.slice none 0 0) 1 24 Try.underlying22 hi0 hz0 hz1 hz2 rfl (by decide) u9 k vs rfl (HO.out.alloc _) ⟨wr.heap.size, 0, none⟩ 1 1 [.slice ax ll cx] rfl rfl (cell_one_new _ _ _) (fun x hx => by simp at hx; subst hx; rfl) (by unfold maxLen; omega) (by omega) (by simp; omega) ?_; intro v2 w2 hown1 hgrow1 _; have hb2 := Lib.hid ((HB.out.alloc hsz _).grown hgrow1 (by simp; omega) (fun k hk => (HO.out.lt k hk).1)); have ho2 : Hid (MatOwn byteV 5 w1.heap.size 23 w2 v2 (turnTo L t k ++ [L.getD q []])) := Lib.hid (MatOwn.app (by decide) (by rw [HQ.out]; exact HO.out) HEL.out HEX.out (by rw [HQ.out]; exact hown1) hgrow1); clear hown1 hgrow1)
        go_roundw
        case rel => exact ⟨k + 1, by omega, by go_num, by rw [HS.out]; exact ho2.out, hb2.out⟩
        case measure => simp [intOf]; omega
      · have hk' : k = L.length := by omega
        have hMt := MatOwn.at ⟨vs, hown, hel⟩
        rw [hk'] at hMt HO HEL
        have HMT := Lib.hid hMt
        have HTL : Hid (∀ r ∈ turnTo L t L.length, r.length = m) := Lib.hid fun r hr => HRL.out r (turn_sub htl r hr)
        have HTW : Hid (∀ r ∈ turnTo L t L.length, Octets r) := Lib.hid fun r hr => HW.out r (turn_sub htl r hr)
        have HTS : Hid (sumB m (turnTo L t L.length) = sumB m L) := Lib.hid (sumB_congr fun j _ => colX_turn htl j)
        have HTN := Lib.hid (turnTo_length L t L.length)
        have HTS2 : Hid (sumB m (turnTo L t L.length ++ [sumB m L, sumB m L]) = sumB m L) := Lib.hid (sumB_congr fun j _ => by
          rw [show [sumB m L, sumB m L] = [sumB m L] ++ [sumB m L] from rfl, colX_append, colX_append, Nat.xor_self, Nat.xor_zero, colX_turn htl])
        have HZD : Hid (zeroB (sumB m (L ++ [sumB m L])) = true) := Lib.hid zeroB_self
        have hll : L.length ≤ 5864062014634 := by omega
        rw [hk']
        obtain ⟨tb, tcp, rfl, -, -⟩ := own_open HO.out
        clear hown hel hbel hMt hlt hk' hkl
        generalize turnTo L t L.length = T at *
        generalize sumB m L = S at *
        go_wp2_with fail
        refine (Sum_ok _ T m HMT.out hm1 hm2 HTL.out HTW.out).mono ?_
        rintro e w2 ⟨vb, rfl, hob, hb2⟩
        rw [HTS.out] at hob
        have HEB2 : Hid (ElAt byteV 5 w1.heap.size w2 vb S) := Lib.hid (ElAt.own hob)
        have HB2 := Lib.hid (HB.out.trans (hb2.mono hsz))
        have hsz2 := HB2.out.size
        have HO2 := Lib.hid (owns_kept HO.out hb2)
        have HEL2 := Lib.hid (fun i => (HEL.out i).mono hb2)
        have HA2 := Lib.hid (HA1.out.mono HB2.out)
        have HTL2 := Lib.hid (with_two (p := fun r => r.length = m) HTL.out HSLN.out)
        have HTW2 := Lib.hid (with_two HTW.out HSO.out)
        have HLL2 := Lib.hid (with_one (p := fun r => r.length = m) HRL.out HSLN.out)
        have HLW2 := Lib.hid (with_one HW.out HSO.out)
        obtain ⟨bo, bc, rfl, -, -⟩ := own_open hob
        clear hob hb2 HEL HMT
        go_wp2_with (at_builtin; refine wpList_append_own _ rfl (.tmp 63) (.tmp 66) 22 rfl w1.heap.size 23 i0 (.slice none 0 0) 1 24 Try.underlying22 hi0 hz0 hz1 hz2 rfl (by decide) _ L.length vs rfl (HO2.out.alloc _) ⟨w2.heap.size, 0, none⟩ 2 2 [.slice ao m co, .slice ao m co] rfl rfl (cells_new _ _) (fun x hx => by simp at hx; subst hx; rfl) (by unfold maxLen; omega) (by omega) (by simp; omega) ?_; intro vt w3 hown1 hgrow1 _; have hb3 := Lib.hid ((HB2.out.alloc hsz2 _).grown hgrow1 (by simp; omega) (fun k hk => (HO2.out.lt k hk).1)); have ho3 : Hid (MatOwn byteV 5 w1.heap.size 23 w3 vt (T ++ [S, S])) := Lib.hid (MatOwn.many (xs := [.slice ao m co, .slice ao m co]) (by decide) (by rw [HTN.out]; exact HO2.out) HEL2.out (ElAt.two HA2.out) hown1 (by rw [List.length_append, HTN.out]; rfl) hgrow1); have HEB3 := Lib.hid ((HEB2.out.mono ((Below.refl w2.heap.size w2).alloc (Nat.le_refl _) _)).grown (by decide) (HO2.out.alloc _) hgrow1); clear hown1 hgrow1)
        have HM3 := Lib.hid ho3.out.at
        have hsz3 := hb3.out.size
        obtain ⟨tv, tvc, rfl, -, -, -⟩ := ho3.out.at.opens
        go_wp2_with fail
        refine (Sum_ok _ (T ++ [S, S]) m HM3.out hm1 hm2 HTL2.out HTW2.out).mono ?_
        rintro e w4 ⟨vc, rfl, hoc, hb4⟩
        rw [HTS2.out] at hoc
        have HB4 := Lib.hid (hb3.out.trans (hb4.mono hsz3))
        have hsz4 := HB4.out.size
        have HEB4 := Lib.hid (HEB3.out.1.mono hb4)
        have HEC4 := Lib.hid (ListAt.of_owns hoc)
        have HA4 := Lib.hid (HA1.out.1.mono HB4.out)
        have HV4 := Lib.hid (HVSW.out.mono HB4.out)
        have HEL4 := Lib.hid (fun i => (HELW.out i).mono HB4.out)
        have HB14 := Lib.hid (HB1.out.trans (HB4.out.mono hsz1))
        obtain ⟨co', cc, rfl, -, -⟩ := own_open hoc
        have HOp := Lib.hid (World.ownsRow_made (base := w4.heap.size) (e := 23) (size := 1) w4 #[] 0 (Nat.le_refl _) (by decide) rfl)
        have HBp := Lib.hid ((Below.refl w4.heap.size w4).alloc (Nat.le_refl _) (.cells #[] 23))
        have HVAp := Lib.hid (HV4.out.mono HBp.out)
        clear hoc hb4 hb3 ho3 HM3 HEB3 HEB2 HO2 HEL2 HA2 HB2 hsz2 hsz3
        go_wp2_with (first
          | (at_builtin; refine wpList_append_of (f := id) _ rfl (.tmp 73) (.tmp 74) 22 rfl w4.heap.size 23 i0 (.slice none 0 0) 24 Try.underlying22 hi0 hz0 hz1 hz2 rfl _ 0 [] rfl HOp.out _ vs0 rfl HVAp.out HSL.out (by rw [HVL.out]; unfold maxLen; omega) (by rw [HVL.out]; omega) (by simp) ?_; intro op wA hownA hgrowA; have hbA := HBp.out.grown hgrowA (by simp) (fun k hk => (HOp.out.lt k hk).1); rw [HVL.out, Nat.zero_add, List.nil_append, List.map_id] at hownA; have HOAp := Lib.hid hownA; have HBAp := Lib.hid hbA; have hszAp := hbA.size; clear hownA hgrowA hbA)
          | (at_builtin; refine wpList_append_own _ rfl (.tmp 75) (.tmp 77) 22 rfl w4.heap.size 23 i0 (.slice none 0 0) 1 24 Try.underlying22 hi0 hz0 hz1 hz2 rfl (by decide) op L.length vs0 rfl (HOAp.out.alloc _) ⟨wA.heap.size, 0, none⟩ 1 1 [.slice ao m co] rfl rfl (cell_one_new _ _ _) (fun x hx => by simp at hx; subst hx; rfl) (by unfold maxLen; omega) (by omega) (by simp; omega) ?_; intro pp w5 hown2 hgrow2 _; have hbp := Lib.hid ((HBAp.out.alloc hszAp _).grown hgrow2 (by simp; omega) (fun k hk => (HOAp.out.lt k hk).1)); have hop : Hid (MatOwn byteV 5 w4.heap.size 23 w5 pp (L ++ [S])) := Lib.hid (MatOwn.app (by decide) HOAp.out (fun i => ElAt.old (HEL4.out i) HBAp.out) (ElAt.old HA4.out HBAp.out) hown2 hgrow2); clear hown2 hgrow2))
        have HM5 := Lib.hid hop.out.at
        have hsz5 := hbp.out.size
        obtain ⟨pv, pvc, rfl, -, -, -⟩ := hop.out.at.opens
        go_wp2_with fail
        refine (Sum_ok _ (L ++ [S]) m HM5.out hm1 hm2 HLL2.out HLW2.out).mono ?_
        rintro e w6 ⟨vd, rfl, hod, hb6⟩
        have HB46 := Lib.hid (hbp.out.trans (hb6.mono hsz5))
        have HB6 := Lib.hid (HB14.out.trans (HB46.out.mono HB14.out.size))
        have HLD := Lib.hid (ListAt.of_owns hod)
        have hka := (HA4.out.mono HB46.out).str
        have hkb := (HEB4.out.mono HB46.out).str
        have hkc := (HEC4.out.mono HB46.out).str
        obtain ⟨od, cd, rfl, -, -⟩ := own_open hod
        clear hod hb6 hbp hop HM5 HOp HBp HVAp HOAp HBAp hszAp
        generalize strN S = str at *
        go_wp2_with fail
        refine (Zero_any _ _ HLD.out).mono ?_
        rintro e w7 ⟨rfl, rfl⟩
        rw [HZD.out]
        go_wp2_with fail
        refine (awake4 _).mono ?_
        rintro e wz ⟨rfl, hbz⟩
        have HBZ := Lib.hid (HB6.out.trans (hbz.mono HB6.out.size))
        clear hbz
        go_wp2
        go_ret
        exact ⟨rfl, HBZ.out⟩
  · generalize hkk : checkS L n = k at hk
    have HKK := Lib.hid hkk
    clear hkk
    go_enter Try.func3, Try.ntmps3
    go_wp2_with fail
    refine (Sum_bad _ L n k HM.out HN.out HKK.out hk).mono ?_
    rintro e w1 ⟨E1, rfl, he1, hb1⟩
    have HB1 := Lib.hid hb1
    obtain ⟨u, x, rfl⟩ := he1.some hk
    clear he1 hb1
    go_wp2_with fail
    refine (awake4 _).mono ?_
    rintro e wz ⟨rfl, hbz⟩
    have HBZ := Lib.hid (HB1.out.trans (hbz.mono HB1.out.size))
    clear hbz
    go_wp2
    go_ret
    exact ⟨rfl, HBZ.out⟩
end Go.Proofs.Ytibgddfnkfhlfaa
