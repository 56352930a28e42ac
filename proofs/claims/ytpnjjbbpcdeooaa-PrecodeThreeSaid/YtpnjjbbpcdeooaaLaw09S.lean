/- The ninth layer's laws PrecodeThree, PrecodeApart: the walks. -/
import Derived.Test.YtpnjjbbpcdeooaaLaw09
import Derived.Test.YtpnjjbbpcdeooaaPcIn
import Derived.Test.YtpnjjbbpcdeooaaSameN
import Derived.Deep.RegionHeld3
namespace Go.Proofs.Ytpnjjbbpcdeooaa
open Go.RowKit Go.Extern.Stop Go.Stop Go.Extern

theorem wrap_u_nonneg' (k : Int) : 0 ≤ IntKind.u64.wrap k := by rw [IntKind.wrap_u64]; omega
theorem wrap_rest (k : Int) {m : Nat} (hm : 0 < m) : ∃ a : Nat, (IntKind.u64.wrap k).tmod (m : Int) = (a : Int) ∧ a < m := by
  have h0 := wrap_u_nonneg' k
  have := Int.tmod_nonneg (m : Int) h0
  have := Int.tmod_lt_of_pos (IntKind.u64.wrap k) (b := (m : Int)) (by omega)
  exact ⟨((IntKind.u64.wrap k).tmod m).toNat, by omega, by omega⟩

def lastTo (l : List Nat) (s k : Nat) : List Nat := (l.take k).filter fun r => decide (s ≤ r)
theorem lastTo_le (l : List Nat) (s k : Nat) : (lastTo l s k).length ≤ k := by
  unfold lastTo
  refine Nat.le_trans (List.length_filter_le _ _) ?_
  rw [List.length_take]; omega
theorem lastTo_all (l : List Nat) (s : Nat) : lastTo l s l.length = l.filter fun r => decide (s ≤ r) := by unfold lastTo; rw [List.take_length]
theorem filter_take_succ {l : List Nat} {p : Nat → Bool} {k : Nat} (h : k < l.length) : (l.take (k + 1)).filter p = (l.take k).filter p ++ if p (l.getD k 0) then [l.getD k 0] else [] := by
  rw [List.take_succ_eq_append_getElem h, List.filter_append, List.getD_eq_getElem?_getD, List.getElem?_eq_getElem h]
  congr 1
  cases hp : p l[k] <;> simp [hp]
theorem lastTo_one {l : List Nat} {s k : Nat} (h : k < l.length) (hs : s ≤ l.getD k 0) : lastTo l s (k + 1) = lastTo l s k ++ [l.getD k 0] := by
  unfold lastTo; rw [filter_take_succ h, decide_eq_true hs]; rfl
theorem lastTo_none {l : List Nat} {s k : Nat} (h : k < l.length) (hs : ¬ s ≤ l.getD k 0) : lastTo l s (k + 1) = lastTo l s k := by
  unfold lastTo; rw [filter_take_succ h, decide_eq_false hs]; exact List.append_nil _

set_option maxRecDepth 1000000 in
set_option maxHeartbeats 1000000 in
theorem last_any {w : World} (v : Value) (l : List Nat) (s : Nat) (h : ListAt colV w v l) (hl : l.length ≤ 100000) (_hs : s ≤ 100000) :
    Calls Try.prog 14 #[v, .int .i64 (s : Int)] w fun e w' => ∃ v', e = .returned v' ∧ ListAt colV w' v' (l.filter fun r => decide (s ≤ r)) ∧ Below w.heap.size w w' := by
  obtain ⟨i0, hi, hz0, hz1, hz2⟩ := info_parts info_int
  obtain ⟨a, cap, rfl, hcap, -, hcell⟩ := h
  have HC := Lib.hid hcell
  clear hcell
  go_enter Try.func14, Try.ntmps14
  go_wp2
  go_loopw [5, 6] (fun o i wr => ∃ q m : Nat, q ≤ l.length ∧ i = .int .i64 q ∧ (lastTo l s q).length = m ∧ wr.ownsRow w.heap.size 3 1 o m ((lastTo l s q).map colV) ∧ Below w.heap.size w wr) (fun _ i _ => l.length - (intOf i).toNat)
  case atStart => exact ⟨0, 0, Nat.zero_le _, rfl, rfl, World.ownsRow_made (base := w.heap.size) (e := 3) (size := 1) w #[] 0 (Nat.le_refl _) (by decide) rfl, (Below.refl _ _).alloc (Nat.le_refl _) _⟩
  case round =>
    obtain ⟨q, m, hq, rfl, hm, hown, hbel⟩ := hrel
    have HO := Lib.hid hown
    have HB := Lib.hid hbel
    have hsz := hbel.size
    have HMM := Lib.hid hm
    have hmq : m ≤ q := by rw [← hm]; exact lastTo_le _ _ _
    obtain ⟨ao, co, rfl, -, -⟩ := own_open hown
    clear hown hm
    by_cases hlt : q < l.length
    · obtain ⟨b, off, rfl, hcc⟩ := HC.out (by omega)
      have hx : w.cell? ⟨b, off + q, none⟩ = some (.int .i64 ((l.getD q 0 : Nat) : Int)) := by
        rw [List.getD_eq_getElem?_getD, List.getElem?_eq_getElem hlt]; exact hcc q hlt
      have hy : wr.cell? ⟨b, off + q, none⟩ = some (.int .i64 ((l.getD q 0 : Nat) : Int)) := (hbel.cell (p := ⟨b, off + q, none⟩) (World.block_lt_of_cell? w _ hx)).trans hx
      clear hcc hbel hx
      by_cases hin : s ≤ l.getD q 0
      · have HS := Lib.hid (lastTo_one hlt hin)
        generalize l.getD q 0 = y at *
        go_wp2_with (at_builtin; refine wpList_append_own _ rfl (.tmp 20) (.tmp 25) 33 rfl w.heap.size 3 i0 (.int .i64 0) 1 8 Try.underlying33 hi hz0 hz1 hz2 rfl (by decide) (.slice ao m co) m ((lastTo l s q).map colV) rfl (HO.out.alloc _) ⟨wr.heap.size, 0, none⟩ 1 1 [.int .i64 (y : Int)] rfl rfl (cell_one_new _ _ _) (fun x hx => by simp at hx; subst hx; rfl) (by unfold maxLen; omega) (by omega) (by simp; omega) ?_; intro v2 w4 hown1 hgrow1 _; have hb3 := Lib.hid ((HB.out.alloc (by omega) _).grown hgrow1 (by simp; omega) (fun k hk => (HO.out.lt k hk).1)); have ho2 := Lib.hid hown1; clear hown1 hgrow1)
        go_roundw
        case rel => exact ⟨q + 1, m + 1, by omega, by go_num, by rw [HS.out, List.length_append, HMM.out]; rfl, by rw [HS.out, List.map_append]; exact ho2.out, hb3.out⟩
        case measure => simp [intOf]; omega
      · have HS := Lib.hid (lastTo_none hlt hin)
        generalize l.getD q 0 = y at *
        go_wp2
        go_roundw
        case rel => exact ⟨q + 1, m, by omega, by go_num, by rw [HS.out]; exact HMM.out, by rw [HS.out]; exact HO.out, HB.out⟩
        case measure => simp [intOf]; omega
    · obtain rfl : q = l.length := by omega
      have HE : Hid (ListAt colV wr (.slice ao m co) (l.filter fun r => decide (s ≤ r))) := Lib.hid (by
        rw [← lastTo_all]
        have := HO.out
        rw [← HMM.out] at this ⊢
        exact ListAt.of_owns this)
      clear hbel
      go_wp2
      go_ret
      exact ⟨_, rfl, HE.out, HB.out⟩

def firstTo (l : List Nat) (s k : Nat) : Nat := ((l.take k).filter fun r => decide (r < s)).length
theorem firstTo_one {l : List Nat} {s k : Nat} (h : k < l.length) (hs : l.getD k 0 < s) : firstTo l s (k + 1) = firstTo l s k + 1 := by
  unfold firstTo; rw [filter_take_succ h, decide_eq_true hs, List.length_append]; rfl
theorem firstTo_none {l : List Nat} {s k : Nat} (h : k < l.length) (hs : ¬ l.getD k 0 < s) : firstTo l s (k + 1) = firstTo l s k := by
  unfold firstTo; rw [filter_take_succ h, decide_eq_false hs, List.length_append]; rfl
theorem firstTo_le (l : List Nat) (s k : Nat) : firstTo l s k ≤ k := by
  unfold firstTo
  refine Nat.le_trans (List.length_filter_le _ _) ?_
  rw [List.length_take]; omega

set_option maxRecDepth 1000000 in
set_option maxHeartbeats 4000000 in
theorem three9 {w : World} (k0 x0 : Int) : Calls Try.prog 4 #[.int .i64 k0, .int .i64 x0] w fun e w' => e = .returned (.bool true) ∧ Below w.heap.size w w' := by
  obtain ⟨a, ha, ha1⟩ := wrap_rest k0 (m := 128) (by decide)
  rw [show ((128 : Nat) : Int) = 128 from rfl] at ha
  obtain ⟨k, hk⟩ : ∃ k : Nat, 1 + (a : Int) = (k : Int) := ⟨a + 1, by omega⟩
  have hk1 : 1 ≤ k := by omega
  have hk2 : k ≤ 128 := by omega
  have HK := Lib.hid hk
  clear hk
  go_enter Try.func4, Try.ntmps4
  go_wp2_with fail
  clear ha
  rw [HK.out]
  refine (rOf_any k hk1 hk2).mono ?_
  rintro e w1 ⟨s, h, l, p, rfl, hof, hb1⟩
  obtain ⟨b1, b2, b3, b4, b5, b6, b7⟩ := hof.bounds hk1 hk2
  have HL : Hid (l = k + s + h) := Lib.hid hof.2.2.1
  have hodd := ofP_odd hof hk1 hk2
  obtain ⟨x, hx, hx1⟩ := wrap_rest x0 (m := l) (by have := HL.out; omega)
  obtain ⟨W, hW, hbW, hbx⟩ := par_laid w1 k s h l p
  have HW := Lib.hid hW
  have HB1 := Lib.hid (hb1.trans (hbW.mono hb1.size))
  have HBX := Lib.hid hbx
  have HIN : Hid (∀ V, Calls Try.prog 12 #[.agg #[.int .i64 (k : Int), .int .i64 (s : Int), .int .i64 (h : Int), .int .i64 (l : Int), .int .i64 (p : Int)], .int .i64 (x : Int)] V fun e w' => ∃ v g, e = .returned (.tuple #[v, .nilIface]) ∧ IsGr ((h + 1) / 2) (k + s) g ∧ ListAt colV w' v (rowsWith (rowsP k s h g) x) ∧ Below V.heap.size V w') := Lib.hid fun V => In_ok k s h l p x hof hk1 hk2 hx1
  have HALL : Hid (∀ g, IsGr ((h + 1) / 2) (k + s) g → ∃ A B : Nat, ((rowsWith (rowsP k s h g) x).filter fun r => decide (r < s)).length = A ∧ (rowsWith (rowsP k s h g) x).length = A + B ∧ A ≤ s ∧ B ≤ h ∧ (x < k → A = 3 ∧ B = (h + 1) / 2) ∧ (k ≤ x → x < k + s → A = 1 ∧ B = (h + 1) / 2) ∧ (k + s ≤ x → A = 0 ∧ B = 1)) := Lib.hid fun g hg =>
    ⟨(inL k s x).length, (inH k s h g x).length, by rw [with_first], with_len k s h g x, inL_le k s x, inH_le k s h g x, fun h1 => ⟨inL_near b1 hodd h1, inH_near hof hk1 hk2 hg (by omega)⟩, fun h1 h2 => ⟨inL_mid h1 h2, inH_near hof hk1 hk2 hg h2⟩, fun h1 => ⟨by rw [inL_far h1]; rfl, inH_far h1 (by have := HL.out; omega)⟩⟩
  obtain ⟨c0, c1, c2, c3, c4⟩ := hbx.cells
  have hl0 : ((l : Int) == 0) = false := by have := HL.out; simp; omega
  clear hb1 hof hW hbW hbx hodd
  unfold parV parC
  go_upto_region 2 with fail
  rw [← HW.out]
  generalize w1.heap.size = gp at *
  go_wp2_with fail
  refine (HIN.out _).mono ?_
  rintro e w2 ⟨v, g, rfl, hg, hl2, hb2⟩
  obtain ⟨A, B, hA, hN, hA1, hB1, h1, h2, h3⟩ := HALL.out g hg
  have HB2 := Lib.hid (HB1.out.trans (hb2.mono HB1.out.size))
  have HBX2 := Lib.hid (HBX.out.mono hb2)
  generalize rowsWith (rowsP k s h g) x = L at *
  obtain ⟨ad, cap, rfl, hcap, -, hcell⟩ := hl2
  have HC := Lib.hid hcell
  have HN := Lib.hid hN
  have HA : Hid (firstTo L s L.length = A) := Lib.hid (by unfold firstTo; rw [List.take_length]; exact hA)
  have H1 := Lib.hid h1
  have H2 := Lib.hid h2
  have H3 := Lib.hid h3
  clear hg hb2 hcell hA h1 h2 h3 c0 c1 c2 c3 c4
  have hN29 : L.length ≤ 29 := by omega
  clear hN
  go_wp2_with fail
  go_loopw [8, 9] (fun f i wr => ∃ q c : Nat, q ≤ L.length ∧ i = .int .i64 q ∧ f = .int .i64 c ∧ firstTo L s q = c ∧ Below w2.heap.size w2 wr) (fun _ i _ => L.length - (intOf i).toNat)
  case atStart => exact ⟨0, 0, Nat.zero_le _, rfl, rfl, rfl, Below.refl _ _⟩
  case round =>
    obtain ⟨q, c, hq, rfl, rfl, hc, hbel⟩ := hrel
    have HF := Lib.hid hc
    have HB := Lib.hid hbel
    have hcq : c ≤ q := by rw [← hc]; exact firstTo_le _ _ _
    clear hc
    obtain ⟨c0, c1, c2, c3, c4⟩ := (HBX2.out.mono hbel).cells
    by_cases hlt : q < L.length
    · obtain ⟨b, off, rfl, hcc⟩ := HC.out (by omega)
      have hx : w2.cell? ⟨b, off + q, none⟩ = some (.int .i64 ((L.getD q 0 : Nat) : Int)) := by
        rw [List.getD_eq_getElem?_getD, List.getElem?_eq_getElem hlt]; exact hcc q hlt
      have hy : wr.cell? ⟨b, off + q, none⟩ = some (.int .i64 ((L.getD q 0 : Nat) : Int)) := (hbel.cell (p := ⟨b, off + q, none⟩) (World.block_lt_of_cell? w2 _ hx)).trans hx
      clear hcc hbel hx
      by_cases hin : L.getD q 0 < s
      · have HS := Lib.hid (firstTo_one hlt hin)
        generalize L.getD q 0 = y at *
        go_wp2
        go_quiet (fail)
        go_wp2
        go_roundw
        case rel => exact ⟨q + 1, c + 1, by omega, by go_num, by go_num, by rw [HS.out, HF.out], below_draws HB.out _⟩
        case measure => simp [intOf]; omega
      · have HS := Lib.hid (firstTo_none hlt hin)
        generalize L.getD q 0 = y at *
        go_wp2
        go_quiet (fail)
        go_wp2
        go_roundw
        case rel => exact ⟨q + 1, c, by omega, by go_num, rfl, by rw [HS.out, HF.out], below_draws HB.out _⟩
        case measure => simp [intOf]; omega
    · obtain rfl : q = L.length := by omega
      have hcA : c = A := by rw [← HF.out, HA.out]
      have hcN : L.length = A + B := HN.out
      have HFIN := Lib.hid (HB2.out.trans (hbel.mono HB2.out.size))
      clear HIN HALL HA HN HF
      obtain rfl := hcA
      have hrest : (L.length : Int) - (c : Int) = (B : Int) := by omega
      clear hcN
      have hBb : ((B : Int) == (B : Int)) = true := by simp
      have hB29 : B ≤ 29 := by omega
      clear hbel
      by_cases hp1 : x < k
      · obtain ⟨e1, e2⟩ := H1.out hp1
        have hhalf : ((h : Int) + 1) / 2 = (B : Int) := by omega
        obtain rfl : c = 3 := by omega
        clear e1 e2 H1 H2 H3 HL
        go_wp2_with fail
        refine (awake9 _).mono ?_
        rintro e w4 ⟨rfl, hb4⟩
        have HB4 := Lib.hid (HFIN.out.trans (hb4.mono HFIN.out.size))
        clear hb4
        go_wp2
        go_ret
        exact ⟨rfl, HB4.out⟩
      · by_cases hp2 : x < k + s
        · obtain ⟨e1, e2⟩ := H2.out (by omega) hp2
          have hhalf : ((h : Int) + 1) / 2 = (B : Int) := by omega
          obtain rfl : c = 1 := by omega
          clear e1 e2 H1 H2 H3 HL
          go_wp2_with fail
          refine (awake9 _).mono ?_
          rintro e w4 ⟨rfl, hb4⟩
          have HB4 := Lib.hid (HFIN.out.trans (hb4.mono HFIN.out.size))
          clear hb4
          go_wp2
          go_ret
          exact ⟨rfl, HB4.out⟩
        · obtain ⟨e1, e2⟩ := H3.out (by omega)
          obtain rfl : c = 0 := by omega
          obtain rfl : B = 1 := by omega
          have hn1 : ((L.length : Int) == 1) = true := by simp; omega
          have hn2 : L.length = 1 := by omega
          clear e1 H1 H2 H3 HL hrest
          go_wp2_with fail
          refine (awake9 _).mono ?_
          rintro e w4 ⟨rfl, hb4⟩
          have HB4 := Lib.hid (HFIN.out.trans (hb4.mono HFIN.out.size))
          clear hb4
          go_wp2
          go_ret
          exact ⟨rfl, HB4.out⟩

set_option maxRecDepth 1000000 in
set_option maxHeartbeats 4000000 in
theorem apart9 {w : World} (k0 x0 y0 : Int) : Calls Try.prog 5 #[.int .i64 k0, .int .i64 x0, .int .i64 y0] w fun e w' => e = .returned (.bool true) ∧ Below w.heap.size w w' := by
  obtain ⟨a, ha, ha1⟩ := wrap_rest k0 (m := 128) (by decide)
  rw [show ((128 : Nat) : Int) = 128 from rfl] at ha
  obtain ⟨k, hk⟩ : ∃ k : Nat, 1 + (a : Int) = (k : Int) := ⟨a + 1, by omega⟩
  have hk1 : 1 ≤ k := by omega
  have hk2 : k ≤ 128 := by omega
  have HK := Lib.hid hk
  clear hk
  go_enter Try.func5, Try.ntmps5
  go_wp2_with fail
  clear ha
  rw [HK.out]
  refine (rOf_any k hk1 hk2).mono ?_
  rintro e w1 ⟨s, h, l, p, rfl, hof, hb1⟩
  obtain ⟨b1, b2, b3, b4, b5, b6, b7⟩ := hof.bounds hk1 hk2
  obtain ⟨n, hn⟩ : ∃ n : Nat, k + s = n := ⟨_, rfl⟩
  have hnI : (k : Int) + (s : Int) = (n : Int) := by omega
  obtain ⟨x, hx, hx1⟩ := wrap_rest x0 (m := n) (by omega)
  obtain ⟨y, hy, hy1⟩ := wrap_rest y0 (m := n) (by omega)
  have hn157 : n ≤ 157 := by omega
  have hn1 : 1 ≤ n := by omega
  obtain ⟨W, hW, hbW, hbx⟩ := par_laid w1 k s h l p
  have HW := Lib.hid hW
  have HB1 := Lib.hid (hb1.trans (hbW.mono hb1.size))
  have HBX := Lib.hid hbx
  have hlt : n ≤ l := by have := hof.2.2.1; omega
  have HIN : Hid (∀ V (x : Nat), x < n → Calls Try.prog 12 #[.agg #[.int .i64 (k : Int), .int .i64 (s : Int), .int .i64 (h : Int), .int .i64 (l : Int), .int .i64 (p : Int)], .int .i64 (x : Int)] V fun e w' => ∃ v g, e = .returned (.tuple #[v, .nilIface]) ∧ IsGr ((h + 1) / 2) (k + s) g ∧ ListAt colV w' v (rowsWith (rowsP k s h g) x) ∧ Below V.heap.size V w') := Lib.hid fun V x hx => In_ok k s h l p x hof hk1 hk2 (by omega)
  have HNE : Hid (∀ g, IsGr ((h + 1) / 2) (k + s) g → x ≠ y → (inH k s h g x).map (s + ·) ≠ (inH k s h g y).map (s + ·)) := Lib.hid fun g hg hne => inH_apart hof hk1 hk2 hg (by omega) (by omega) hne
  have HLE : Hid (∀ g (x : Nat), (rowsWith (rowsP k s h g) x).length ≤ s + h) := Lib.hid fun g x => by
    rw [with_len]
    have := inL_le k s x
    have := inH_le k s h g x
    omega
  obtain ⟨c0, c1, c2, c3, c4⟩ := hbx.cells
  have hn0 : ((n : Int) == 0) = false := by simp; omega
  clear hb1 hof hW hbW hbx hn hlt
  unfold parV parC
  go_upto_region 2 with fail
  rw [← HW.out]
  generalize w1.heap.size = gp at *
  go_wp2_with fail
  refine (HIN.out _ x hx1).mono ?_
  rintro e w2 ⟨va, g, rfl, hg, hla, hb2⟩
  have HB2 := Lib.hid (HB1.out.trans (hb2.mono HB1.out.size))
  have HBX2 := Lib.hid (HBX.out.mono hb2)
  have HLA := Lib.hid hla
  have HG := Lib.hid hg
  clear c0 c1 c2 c3 c4 hb2 hg hla
  obtain ⟨c0, c1, c2, c3, c4⟩ := HBX2.out.cells
  go_wp2_with fail
  refine (HIN.out _ y hy1).mono ?_
  rintro e w3 ⟨vb, g2, rfl, hg, hlb, hb3⟩
  obtain rfl := hg.unique HG.out
  have HB3 := Lib.hid (HB2.out.trans (hb3.mono HB2.out.size))
  have HSAT : Hid (∀ V, Below w3.heap.size w3 V → V.cell? ⟨gp, 1, none⟩ = some (.int .i64 (s : Int))) := Lib.hid fun V hV => ((HBX2.out.mono hb3).mono hV).cells.2.1
  have HLA3 := Lib.hid (HLA.out.mono hb3)
  have HLB3 := Lib.hid hlb
  have HQA : Hid (∀ V, Below w3.heap.size w3 V → Calls Try.prog 14 #[va, .int .i64 (s : Int)] V fun e w' => ∃ v', e = .returned v' ∧ ListAt colV w' v' ((inH k s h g2 x).map (s + ·)) ∧ Below V.heap.size V w') := Lib.hid fun V hV => by
    have := last_any (w := V) va _ s (HLA3.out.mono hV) (by have := HLE.out g2 x; omega) (by omega)
    rwa [with_last] at this
  have HQB : Hid (∀ V, Below w3.heap.size w3 V → Calls Try.prog 14 #[vb, .int .i64 (s : Int)] V fun e w' => ∃ v', e = .returned v' ∧ ListAt colV w' v' ((inH k s h g2 y).map (s + ·)) ∧ Below V.heap.size V w') := Lib.hid fun V hV => by
    have := last_any (w := V) vb _ s (HLB3.out.mono hV) (by have := HLE.out g2 y; omega) (by omega)
    rwa [with_last] at this
  have HSM : Hid (∀ V v1 v2, ListAt colV V v1 ((inH k s h g2 x).map (s + ·)) → ListAt colV V v2 ((inH k s h g2 y).map (s + ·)) → Calls Try.prog 13 #[v1, v2] V fun e w' => e = .returned (.bool (decide ((x : Int) = (y : Int)))) ∧ Below V.heap.size V w') := Lib.hid fun V v1 v2 h1 h2 => by
    by_cases hxy : x = y
    · subst hxy
      rw [decide_eq_true rfl]
      exact SameI_any v1 v2 _ h1.cols h2.cols
    · rw [decide_eq_false (show ¬ (x : Int) = (y : Int) by omega)]
      refine SameI_not v1 v2 _ _ h1.cols h2.cols (fun e => HNE.out g2 hg hxy ?_)
      exact (List.map_inj_right (fun a b (e : Int.ofNat a = Int.ofNat b) => Int.ofNat.inj e)).1 e
  have HAW : Hid (∀ V, Calls Try.prog 11 #[] V fun e w' => e = .returned (.bool true) ∧ Below V.heap.size V w') := Lib.hid fun V => awake9 V
  have HBD : Hid (Below w3.heap.size w3 w3.drew) := Lib.hid (Below.refl _ _).drew
  have HSD := Lib.hid (HSAT.out _ HBD.out)
  obtain ⟨aa, na, ca, rfl⟩ : ∃ aa na ca, va = .slice aa na ca := by obtain ⟨a, c, e, -⟩ := HLA.out; exact ⟨a, _, c, e⟩
  obtain ⟨ab, nb, cb, rfl⟩ : ∃ aa na ca, vb = .slice aa na ca := by obtain ⟨a, c, e, -⟩ := HLB3.out; exact ⟨a, _, c, e⟩
  clear c0 c1 c2 c3 c4 hb3 hg hlb HIN HNE HLE HBX HG
  go_wp2_with fail
  have HXY : Hid (decide ((x : Int) = (y : Int)) = decide (x = y)) := Lib.hid (decide_eq_decide.2 (by omega))
  rw [HXY.out] at HSM
  by_cases hxy : x = y
  · subst hxy
    rw [decide_eq_true rfl] at HSM
    go_region_held3 (fun w' => w'.cell? ⟨gp, 1, none⟩ = some (.int .i64 (s : Int)))
      (first | exact HSD.out | exact HSAT.out _ HB4.out | exact HSAT.out _ HB5.out | exact HSAT.out _ HB6.out | exact HSAT.out _ HB7.out | go_keep)
      (first
      | (go_at_call 14; (with_reducible refine (HQA.out _ HBD.out).mono ?_); rintro e w4 ⟨v4, rfl, hl4, hb4⟩; have HB4 := Lib.hid (HBD.out.trans (hb4.mono HBD.out.size)); have HL4 := Lib.hid hl4; clear hb4 hl4)
      | (go_at_call 14; (with_reducible refine (HQB.out _ HB4.out).mono ?_); rintro e w5 ⟨v5, rfl, hl5, hb5⟩; have HB5 := Lib.hid (HB4.out.trans (hb5.mono HB4.out.size)); have HL5 := Lib.hid hl5; have HL45 := Lib.hid (HL4.out.mono hb5); clear hb5 hl5)
      | (go_at_call 13; (with_reducible refine (HSM.out _ _ _ HL45.out HL5.out).mono ?_); rintro e w6 ⟨rfl, hb6⟩; have HB6 := Lib.hid (HB5.out.trans (hb6.mono HB5.out.size)); clear hb6)
      | (go_at_call 11; (with_reducible refine (HAW.out _).mono ?_); rintro e w7 ⟨rfl, hb7⟩; have HB7 := Lib.hid (HB6.out.trans (hb7.mono HB6.out.size)); clear hb7))
    all_goals
      go_wp2
      go_ret
      exact ⟨rfl, HB3.out.trans (HB7.out.mono HB3.out.size)⟩
  · rw [decide_eq_false hxy] at HSM
    have hxi : ¬ (x : Int) = (y : Int) := by omega
    have hxb : ((x : Int) == (y : Int)) = false := by simp; omega
    go_region_held3 (fun w' => w'.cell? ⟨gp, 1, none⟩ = some (.int .i64 (s : Int)))
      (first | exact HSD.out | exact HSAT.out _ HB4.out | exact HSAT.out _ HB5.out | exact HSAT.out _ HB6.out | exact HSAT.out _ HB7.out | go_keep)
      (first
      | (go_at_call 14; (with_reducible refine (HQA.out _ HBD.out).mono ?_); rintro e w4 ⟨v4, rfl, hl4, hb4⟩; have HB4 := Lib.hid (HBD.out.trans (hb4.mono HBD.out.size)); have HL4 := Lib.hid hl4; clear hb4 hl4)
      | (go_at_call 14; (with_reducible refine (HQB.out _ HB4.out).mono ?_); rintro e w5 ⟨v5, rfl, hl5, hb5⟩; have HB5 := Lib.hid (HB4.out.trans (hb5.mono HB4.out.size)); have HL5 := Lib.hid hl5; have HL45 := Lib.hid (HL4.out.mono hb5); clear hb5 hl5)
      | (go_at_call 13; (with_reducible refine (HSM.out _ _ _ HL45.out HL5.out).mono ?_); rintro e w6 ⟨rfl, hb6⟩; have HB6 := Lib.hid (HB5.out.trans (hb6.mono HB5.out.size)); clear hb6)
      | (go_at_call 11; (with_reducible refine (HAW.out _).mono ?_); rintro e w7 ⟨rfl, hb7⟩; have HB7 := Lib.hid (HB6.out.trans (hb7.mono HB6.out.size)); clear hb7))
    all_goals
      go_wp2
      go_ret
      exact ⟨rfl, HB3.out.trans (HB7.out.mono HB3.out.size)⟩
end Go.Proofs.Ytpnjjbbpcdeooaa
