/- The fourteenth layer's law BlockingCuts. -/
import Derived.Test.YteilneoamhnndaaDoorBkRCut
import Derived.Test.YteilneoamhnndaaDoorLaw14T
import Derived.Laws.AppendOwnNone
namespace Go.Proofs.YteilneoamhnndaaDoor
open Go.RowKit Go.Extern.Stop Go.Stop Go.Extern

def cutC (s b n l q : Int) (P : List Nat) : Int := if planC s b n l q = 0 then (if (P.length : Int) = s then 0 else 2) else planC s b n l q

theorem bkCut_all {w : World} (s b n l q : Int) (hs : I64 s) (hb : I64 b) (hn : I64 n) (hl : I64 l) (hq : I64 q) (v : Value) (P : List Nat) (hP : ListAt byteV w v P) :
    Calls Tryd.prog 15 #[v, plV s b n l q] w fun e w' => ∃ al ll cl E, e = .returned (.tuple #[.slice al ll cl, E]) ∧ ErrAns (cutC s b n l q P) nameBkCut w' E ∧ Below w.heap.size w w' ∧ (cutC s b n l q P ≠ 0 → ll = 0) ∧
      (cutC s b n l q P = 0 → ∃ s' b' n' l' q' : Nat, s = s' ∧ b = b' ∧ n = n' ∧ l = l' ∧ q = q' ∧ PlanOk s' b' n' l' q' ∧ P.length = s' ∧ CubeNew w.heap.size w' (.slice al ll cl) (cutL s' b' n' l' q' P)) := by
  by_cases hk : planC s b n l q = 0
  · obtain ⟨s', b', n', l', q', rfl, rfl, rfl, rfl, rfl, h⟩ := planC_zero hk
    by_cases hlen : P.length = s'
    · have hc : cutC s' b' n' l' q' P = 0 := by unfold cutC; rw [if_pos hk, if_pos (by omega)]
      rw [hc]
      refine (bkCut_ok h v P hP hlen).mono ?_
      rintro e w' ⟨g, rfl, hcn, hb⟩
      exact ⟨_, _, _, _, rfl, ErrAns.none _ _, hb, fun h => absurd rfl h, fun _ => ⟨s', b', n', l', q', rfl, rfl, rfl, rfl, rfl, h, hlen, hcn⟩⟩
    · have hc : cutC s' b' n' l' q' P = 2 := by unfold cutC; rw [if_pos hk, if_neg (by omega)]
      rw [hc]
      refine (bkCut_len h v P hP hlen).mono ?_
      rintro e w' ⟨E, rfl, he, hb⟩
      exact ⟨_, _, _, _, rfl, he, hb, fun _ => rfl, fun h => by cases h⟩
  · have hc : cutC s b n l q P = planC s b n l q := by unfold cutC; rw [if_neg hk]
    rw [hc]
    refine (bkCut_bad s b n l q hs hb hn hl hq hk v).mono ?_
    rintro e w' ⟨E, rfl, he, hb⟩
    exact ⟨_, _, _, _, rfl, he, hb, fun _ => rfl, fun h => absurd h hk⟩

/-- What was told of an error stands where a row of the call's own, of other values than strings, is written. -/
theorem errAns_row {k : Int} {c : ByteArray} {w2 wr : World} {E v : Value} {B n : Nat} {e : TypeId} {xs : List Value} (h : ErrAns k c w2 E) (ho : w2.ownsRow B e 1 v n xs) (hx : ∀ y ∈ xs, ∀ s, y ≠ .string s) (hg : w2.grownBy wr v.ownBlock) (hz : n = 0 → w2 = wr) : ErrAns k c wr E := by
  by_cases h0 : n = 0
  · rw [← hz h0]; exact h
  · refine errAns_kept2 h fun b s hc => hg.block b (World.block_lt_of_cell? w2 ⟨b, 0, none⟩ hc) fun e1 => ?_
    obtain ⟨a, cap, rfl, -, ha⟩ := own_open ho
    obtain ⟨g, rfl⟩ := ha (by omega)
    have hbg : b = g := by simpa [Value.ownBlock] using e1
    subst hbg
    have hl : xs.length = n := by simpa using ho.1
    rw [ho.cellAt 0 (by omega)] at hc
    have h0l : 0 < xs.length := by omega
    rw [List.getElem?_eq_getElem h0l] at hc
    exact hx _ (List.getElem_mem h0l) s (Option.some.inj hc)

set_option maxRecDepth 1000000 in
set_option maxHeartbeats 4000000 in
theorem cuts14 {w : World} (v : Value) (P : List Nat) (s b n l q : Int) (hP : ListAt byteV w v P) (ho : Octets P) (hR : P.length * 1 ≤ reachBytes) (hs : I64 s) (hb : I64 b) (hn : I64 n) (hl : I64 l) (hq : I64 q) (hg : Laid w) :
    Calls Tryd.prog 5 #[v, plV s b n l q] w fun e w' => e = .returned (.bool true) ∧ Below w.heap.size w w' := by
  obtain ⟨j0, hj0, jz0, jz1, jz2⟩ := info_parts info_u8
  have hRb : P.length ≤ 140737488351232 := by unfold reachBytes at hR; omega
  have HG := Lib.hid hg
  have HOC := Lib.hid ho
  have HCK : Hid (∀ V : World, Calls Tryd.prog 11 #[.agg #[.int .i64 s, .int .i64 b, .int .i64 n, .int .i64 l, .int .i64 q]] V fun e w' => e = .returned (.int .i64 (planC s b n l q)) ∧ Below V.heap.size V w') := Lib.hid fun V => rbCheck_any s b n l q hs hb hn hl hq
  have HCU : Hid (∀ (V : World) (v : Value), ListAt byteV V v P → Calls Tryd.prog 15 #[v, .agg #[.int .i64 s, .int .i64 b, .int .i64 n, .int .i64 l, .int .i64 q]] V fun e w' => ∃ al ll cl E, e = .returned (.tuple #[.slice al ll cl, E]) ∧ ErrAns (cutC s b n l q P) nameBkCut w' E ∧ Below V.heap.size V w' ∧ (cutC s b n l q P ≠ 0 → ll = 0) ∧
      (cutC s b n l q P = 0 → ∃ s' b' n' l' q' : Nat, s = s' ∧ b = b' ∧ n = n' ∧ l = l' ∧ q = q' ∧ PlanOk s' b' n' l' q' ∧ P.length = s' ∧ CubeNew V.heap.size w' (.slice al ll cl) (cutL s' b' n' l' q' P))) := Lib.hid fun V v hv => bkCut_all s b n l q hs hb hn hl hq v P hv
  obtain ⟨W0, hW0, hb0, hbx⟩ := pl_laid w s b n l q
  have HW0 := Lib.hid hW0
  have HB0 := Lib.hid hb0
  have HX := Lib.hid hbx
  have HP := Lib.hid hP
  have HP0 := Lib.hid (hP.mono (hb0.trans (((Below.refl W0.heap.size W0).alloc (Nat.le_refl _) (.cells #[] 5)).mono hb0.size)))
  have HXe := Lib.hid (hbx.mono ((Below.refl W0.heap.size W0).alloc (Nat.le_refl _) (.cells #[] 5)))
  obtain ⟨av, cv, rfl, -, -, -⟩ := hP
  have HOS := Lib.hid (World.ownsRow_made (base := W0.heap.size) (e := 5) (size := 1) W0 #[] 0 (Nat.le_refl _) (by decide) rfl)
  obtain ⟨c0, c1, c2, c3, c4⟩ := hbx.cells
  clear hW0 hb0 hbx hg hs hb hn hl hq ho
  unfold plV plC
  go_enter Tryd.func5, Tryd.ntmps5
  go_upto_region 1 with fail
  rw [← HW0.out]
  go_wp2_with (at_builtin; refine wpList_append_of _ rfl (.tmp 10) (.tmp 11) 39 rfl W0.heap.size 5 j0 (.int .u8 0) 1 Tryd.underlying39 hj0 jz0 jz1 jz2 rfl (.slice (some ⟨W0.heap.size, 0, none⟩) 0 0) 0 [] rfl HOS.out (.slice av P.length cv) P rfl HP0.out (fun y _ => rfl) (by unfold maxLen; omega) (by omega) (by simp) ?_; intro v5 w1 ho1 hg1; have HO1 := Lib.hid (show w1.ownsRow W0.heap.size 5 1 v5 P.length (P.map byteV) by simpa using ho1); have HB1 := Lib.hid (((Below.refl W0.heap.size W0).alloc (Nat.le_refl _) (.cells #[] 5)).grown hg1 (by simp) (fun k hk => by cases hk; exact Nat.le_refl _)); clear ho1 hg1; clear c0 c1 c2 c3 c4; obtain ⟨c0, c1, c2, c3, c4⟩ := (HX.out.mono HB1.out).cells)
  have hl1 : ListAt byteV w1 v5 P := ListAt.of_owns HO1.out
  refine (HCU.out w1 v5 hl1).mono ?_
  rintro e w2 ⟨al, ll, cl, E, rfl, he, hb2, hz, hok⟩
  obtain ⟨ao, co, rfl, hco, hao⟩ := own_open HO1.out
  have HAO := Lib.hid hao
  have HB2 := Lib.hid (HB1.out.trans (hb2.mono HB1.out.size))
  have HO2 := Lib.hid (owns_kept HO1.out hb2)
  have HE2 := Lib.hid he
  have HZ := Lib.hid hz
  have HOK := Lib.hid hok
  have hsz2 := hb2.size
  clear hl1 he hb2 hz hok hao c0 c1 c2 c3 c4
  go_wp2_with fail
  go_loopw [8] (fun i wr => ∃ (k : Nat) (R : List Nat), k ≤ P.length ∧ i = .int .i64 (k : Int) ∧ R.length = P.length ∧ Octets R ∧ wr.ownsRow W0.heap.size 5 1 (.slice ao P.length co) P.length (R.map byteV) ∧ w2.grownBy wr (Value.slice ao P.length co).ownBlock ∧ (P.length = 0 → w2 = wr)) (fun i _ => P.length - (intOf i).toNat)
  case atStart => exact ⟨0, P, by omega, rfl, rfl, HOC.out, HO2.out, World.grownBy.refl _ _, fun _ => rfl⟩
  case round =>
    obtain ⟨k, R, hk, rfl, hRl, hRo, hown, hgr, hz0⟩ := hrel
    by_cases hlt : k < P.length
    · obtain ⟨g, rfl⟩ := HAO.out (by omega)
      have d2 : decide ((k : Int) < (P.length : Int)) = true := decide_eq_true (by omega)
      have hcell := hown.cellAt k (by omega)
      have hx : R.getD k 0 < 256 := hRo.getD k
      have hcell' : wr.cell? ⟨g, k, none⟩ = some (.int .u8 ((R.getD k 0 : Nat) : Int)) := by
        rw [hcell]
        have : k < R.length := by omega
        simp [byteV, List.getD_eq_getElem?_getD, this]
      have hfr : wr.frozen? ⟨g, k, none⟩ = false := hown.frozenAt k
      have HST : Hid ((wr.setCell ⟨g, k, none⟩ (.int .u8 ((255 - R.getD k 0 : Nat) : Int))).ownsRow W0.heap.size 5 1 (.slice (some ⟨g, 0, none⟩) P.length co) P.length ((R.set k (255 - R.getD k 0)).map byteV) ∧ w2.grownBy (wr.setCell ⟨g, k, none⟩ (.int .u8 ((255 - R.getD k 0 : Nat) : Int))) (Value.slice (some ⟨g, 0, none⟩) P.length co).ownBlock) := Lib.hid (by
        obtain ⟨h1, h2⟩ := hown.stored k (byteV (255 - R.getD k 0))
        refine ⟨?_, grown_trans hgr h2⟩
        rw [List.map_set]
        exact h1)
      have HRS : Hid (Octets (R.set k (255 - R.getD k 0)) ∧ (R.set k (255 - R.getD k 0)).length = P.length) := Lib.hid ⟨hRo.set k _ (by omega), by rw [List.length_set]; exact hRl⟩
      clear hcell hown hgr hRo hRl
      generalize R.getD k 0 = x at *
      have hsub : (255 : Int) - (x : Int) = ((255 - x : Nat) : Int) := by omega
      have hy : 255 - x < 256 := by omega
      generalize 255 - x = y at *
      go_wp2
      exact ⟨⟨k + 1, R.set k y, hlt, by go_num, HRS.out.2, HRS.out.1, HST.out.1, HST.out.2, fun h => by omega⟩, by simp [intOf]; omega⟩
    · obtain rfl : k = P.length := by omega
      have d2 : decide ((P.length : Int) < (P.length : Int)) = false := decide_eq_false (by omega)
      have HB3 := Lib.hid (HB2.out.grown hgr HB2.out.size (fun j hj => (HO2.out.lt j hj).1))
      have HE3 := Lib.hid (errAns_row HE2.out HO2.out (fun y hy s => by obtain ⟨z, _, rfl⟩ := List.mem_map.1 hy; intro h; cases h) hgr hz0)
      have HFAR : Hid (∀ g, w1.heap.size ≤ g → g < w2.heap.size → wr.heap[g]? = w2.heap[g]?) := Lib.hid fun g h1 h2 => hgr.block g h2 fun e => by
        have := (HO1.out.lt g e.symm).2
        omega
      have HX3 := Lib.hid (HX.out.mono HB3.out)
      have HP3 := Lib.hid (HP.out.mono (HB0.out.trans (HB3.out.mono HB0.out.size)))
      have HWB := Lib.hid (HB0.out.trans (HB3.out.mono HB0.out.size))
      obtain ⟨c0, c1, c2, c3, c4⟩ := HX3.out.cells
      have HWAY : Hid ((planC s b n l q == 0) = false ∧ cutC s b n l q P = planC s b n l q ∧ ll = 0 ∨ (planC s b n l q == 0) = true ∧ ((P.length : Int) != s) = true ∧ cutC s b n l q P = 2 ∧ ll = 0 ∨ (planC s b n l q == 0) = true ∧ ((P.length : Int) != s) = false ∧ cutC s b n l q P = 0) := Lib.hid (by
        have hz := HZ.out
        unfold cutC at hz ⊢
        by_cases h0 : planC s b n l q = 0
        · rw [if_pos h0] at hz ⊢
          by_cases h1 : (P.length : Int) = s
          · rw [if_pos h1]
            exact .inr (.inr ⟨by simpa using h0, by simpa using h1, rfl⟩)
          · rw [if_neg h1] at hz ⊢
            exact .inr (.inl ⟨by simpa using h0, by simpa using h1, rfl, hz (by decide)⟩)
        · rw [if_neg h0] at hz ⊢
          exact .inl ⟨by simpa using h0, rfl, hz h0⟩)
      clear hown hgr hz0
      generalize hcc : cutC s b n l q P = cc at *
      generalize hpc : planC s b n l q = pc at *
      go_wp2_with fail
      refine (HCK.out wr).mono ?_
      rintro e w4 ⟨rfl, hb4⟩
      have HB4 := Lib.hid (HWB.out.trans (hb4.mono HWB.out.size))
      have HX4 := Lib.hid (HX3.out.mono hb4)
      have HP4 := Lib.hid (HP3.out.mono hb4)
      have HE4 := Lib.hid (HE3.out.mono hb4)
      have HCN4 : Hid (cc = 0 → ∃ s' b' n' l' q' : Nat, s = s' ∧ b = b' ∧ n = n' ∧ l = l' ∧ q = q' ∧ PlanOk s' b' n' l' q' ∧ P.length = s' ∧ CubeAt byteV w4 (.slice al ll cl) (cutL s' b' n' l' q' P)) := Lib.hid fun h => by
        obtain ⟨s', b', n', l', q', e1, e2, e3, e4, e5, h1, h2, h3⟩ := HOK.out h
        exact ⟨s', b', n', l', q', e1, e2, e3, e4, e5, h1, h2, (h3 wr HFAR.out).mono hb4⟩
      clear c0 c1 c2 c3 c4 hb4
      obtain ⟨c0, c1, c2, c3, c4⟩ := HX4.out.cells
      have HT : Hid (∀ k, cc = k → Calls Tryd.prog 9 #[E, .int .i64 k, .string nameBkCut] w4 fun e w' => e = .returned (.bool true) ∧ Below w4.heap.size w4 w') := Lib.hid fun k hk => by subst hk; exact tells_ans cc nameBkCut E HE4.out (HG.out.mono HB4.out)
      rcases HWAY.out with ⟨k0, hj, rfl⟩ | ⟨k0, l0, hj, rfl⟩ | ⟨k0, l0, hj⟩
      · have HJ := Lib.hid hj
        have k0' : (pc != 0) = true := by simpa using k0
        clear hj
        go_wp2_with fail
        refine (HT.out pc HJ.out).mono ?_
        rintro e w5 ⟨rfl, hb5⟩
        have HB5 := Lib.hid (HB4.out.trans (hb5.mono HB4.out.size))
        clear hb5 c0 c1 c2 c3 c4
        go_wp2_with fail
        refine (awake14 _).mono ?_
        rintro e w6 ⟨rfl, hb6⟩
        have HB6 := Lib.hid (HB5.out.trans (hb6.mono HB5.out.size))
        clear hb6
        go_wp2
        go_ret
        exact ⟨rfl, HB6.out⟩
      · have HJ := Lib.hid hj
        clear hj
        go_wp2_with fail
        refine (HT.out 2 HJ.out).mono ?_
        rintro e w5 ⟨rfl, hb5⟩
        have HB5 := Lib.hid (HB4.out.trans (hb5.mono HB4.out.size))
        clear hb5 c0 c1 c2 c3 c4
        go_wp2_with fail
        refine (awake14 _).mono ?_
        rintro e w6 ⟨rfl, hb6⟩
        have HB6 := Lib.hid (HB5.out.trans (hb6.mono HB5.out.size))
        clear hb6
        go_wp2
        go_ret
        exact ⟨rfl, HB6.out⟩
      · have HJ := Lib.hid hj
        obtain rfl : pc = 0 := by simpa using k0
        clear hj
        go_wp2_with fail
        refine (HT.out 0 HJ.out).mono ?_
        rintro e w5 ⟨rfl, hb5⟩
        have HB5 := Lib.hid (HB4.out.trans (hb5.mono HB4.out.size))
        clear c0 c1 c2 c3 c4
        obtain ⟨c0, c1, c2, c3, c4⟩ := (HX4.out.mono hb5).cells
        obtain ⟨s', b', n', l', q', rfl, rfl, rfl, rfl, rfl, h1, h2, h3⟩ := HCN4.out HJ.out
        have HH := Lib.hid h1
        have HLN := Lib.hid h2
        have HC5 := Lib.hid (h3.mono hb5)
        have HP5 := Lib.hid (HP4.out.mono hb5)
        have HRC := Lib.hid (rbCut_any (w := w5) h1 (.slice av P.length cv) P HP5.out HOC.out h2)
        unfold plV plC at HRC
        clear hb5 h1 h2 h3
        go_wp2_with fail
        refine HRC.out.mono ?_
        rintro e w6 ⟨v6, rfl, hc6, hb6⟩
        have HB6 := Lib.hid (HB5.out.trans (hb6.mono HB5.out.size))
        have HC6 := Lib.hid hc6
        have HC65 := Lib.hid (HC5.out.mono hb6)
        clear hc6 hb6 c0 c1 c2 c3 c4
        go_wp2_with fail
        refine (rbSame_any _ _ _ HC65.out HC6.out).mono ?_
        rintro e w7 ⟨rfl, hb7⟩
        have HB7 := Lib.hid (HB6.out.trans (hb7.mono HB6.out.size))
        clear hb7
        go_wp2_with fail
        refine (awake14 _).mono ?_
        rintro e w8 ⟨rfl, hb8⟩
        have HB8 := Lib.hid (HB7.out.trans (hb8.mono HB7.out.size))
        clear hb8
        go_wp2
        go_ret
        exact ⟨rfl, HB8.out⟩
end Go.Proofs.YteilneoamhnndaaDoor
