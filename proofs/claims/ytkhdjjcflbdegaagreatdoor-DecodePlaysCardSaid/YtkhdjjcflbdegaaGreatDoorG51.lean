import Derived.Test.YtkhdjjcflbdegaaGreatDoorG11
import Derived.Test.YtkhdjjcflbdegaaGreatDoorG12
import Derived.Test.YtkhdjjcflbdegaaGreatDoorG14
import Derived.BigQuiet
import Derived.Deep.QuietTactic
import Derived.Deep.CutBlock
import Derived.Test.YtkhdjjcflbdegaaGreatDoorG08
import Derived.Maps.AppendAt
import Derived.Test.YtkhdjjcflbdegaaGreatDoorG16

section
/- Package precode: gather. -/
namespace Go.Proofs.YtkhdjjcflbdegaaGreatDoor
open Go.RowKit Go.Extern.Stop Go.Stop Go.Extern

theorem RowsM.start {W : World} {B bx G n : Nat} (hbox : W.heap[bx]? = some (.cells #[.slice (some ⟨G, 0, none⟩) n n] 91 (0, 0))) (h : W.ownsRow B 55 1 (.slice (some ⟨G, 0, none⟩) n n) n (List.replicate n nilS)) (hB : B ≤ bx) :
    RowsM W B bx G n (fun _ => nilS) (fun _ => []) := by
  refine ⟨hbox, ?_, fun r hr => World.ownsRow_nil _ _ _ _, fun r s _ _ _ => .inl rfl, hB⟩
  have : (List.range n).map (fun _ => nilS) = List.replicate n nilS := by
    apply List.ext_getElem
    · simp
    · intro i a1 a2; simp
  rw [this]; exact h

theorem ldA_int {s j : Nat} (h3 : 3 ≤ s) (hs : s ≤ 1000) (hj : j ≤ 1000) : wrap64 (1 + (wrap64 ((j : Int) / (s : Int))).tmod ((s : Int) - 1)) = ((ldA s j : Nat) : Int) := by
  have e1 : ((j : Int) / (s : Int)) = ((j / s : Nat) : Int) := (Int.natCast_ediv _ _).symm
  have h1 : j / s ≤ j := Nat.div_le_self _ _
  unfold ldA
  rw [e1]
  clear e1
  generalize j / s = q at *
  obtain ⟨t, ht⟩ : ∃ t : Nat, s - 1 = t := ⟨_, rfl⟩
  have e2 : wrap64 (q : Int) = (q : Int) := by unfold wrap64; omega
  have e3 : ((s : Int) - 1) = (t : Int) := by omega
  have h2 : q % t ≤ q := Nat.mod_le _ _
  have e4 : ((q : Int)).tmod (t : Int) = ((q % t : Nat) : Int) := by
    rw [Int.tmod_eq_emod_of_nonneg (Int.natCast_nonneg q)]; exact (Int.natCast_emod _ _).symm
  rw [e2, e3, ht, e4]
  generalize q % t = r at *
  unfold wrap64
  omega

theorem own_row_block {w : World} {B n : Nat} {e : TypeId} {v : Value} {xs : List Value} (h : w.ownsRow B e 1 v n xs) (hn : 0 < n) :
    ∃ g cap cur, v = .slice (some ⟨g, 0, none⟩) n cap ∧ B ≤ g ∧ w.heap[g]? = some (.cells cur e (0, 0)) ∧ ∀ i, i < n → cur[i]? = xs[i]? := by
  rcases h.2 with ⟨_, h0⟩ | ⟨g, cap, cur, hv, hb, hg, hc, hm, hs, ht⟩
  · omega
  · refine ⟨g, cap, cur, hv, hb, hg, fun i hi => ?_⟩
    rw [← ht, List.getElem?_take, if_pos (by omega)]
    simp

/-- What gather's loops keep. -/
structure GaS (w0 W : World) (pb G bx n k s h l p : Nat) (f : Nat → List Nat) : Prop where
  rows : ∃ vs, RowsM W G bx G n vs f
  bel : Below G w0 W
  par : ParBox W pb k s h l p
  lt : pb < G
  sz : G ≤ W.heap.size
section
variable {w0 W W' : World} {pb G bx n k s h l p : Nat} {f f' : Nat → List Nat}
theorem GaS.congr (g : GaS w0 W pb G bx n k s h l p f) (e : ∀ r, r < n → f r = f' r) : GaS w0 W pb G bx n k s h l p f' := by
  obtain ⟨vs, hv⟩ := g.rows
  exact ⟨⟨vs, hv.congr e⟩, g.bel, g.par, g.lt, g.sz⟩
theorem GaS.mono (g : GaS w0 W pb G bx n k s h l p f) (hb : Below W.heap.size W W') : GaS w0 W' pb G bx n k s h l p f := by
  obtain ⟨vs, hv⟩ := g.rows
  exact ⟨⟨vs, hv.mono hb⟩, g.bel.trans (hb.mono g.sz), g.par.mono hb, g.lt, Nat.le_trans g.sz hb.size⟩
theorem GaS.add (g : GaS w0 W pb G bx n k s h l p f) {r x : Nat} (hr : r < n) (hl : ∀ d, (f d).length ≤ 100000) :
    Calls Tryz.prog 138 #[.int .i64 (r : Int), .int .i64 (x : Int), .pointer (some ⟨bx, 0, none⟩)] W fun e w' => (∃ v, e = .returned v) ∧ GaS w0 w' pb G bx n k s h l p (addAt f r x) := by
  obtain ⟨vs, hv⟩ := g.rows
  refine (padd_any G bx G n r x vs f hv hr hl g.sz).mono ?_
  rintro e w' ⟨he, ⟨vs', hr', -⟩, hb⟩
  exact ⟨he, ⟨vs', hr'⟩, g.bel.trans hb, (hb.block pb g.lt).trans g.par, g.lt, Nat.le_trans g.sz hb.size⟩
end

/-- .. and a block that is none of theirs. -/
structure GaG (w0 W : World) (pb G bx n k s h l p : Nat) (f : Nat → List Nat) (gb : Nat) (o : Obj) : Prop where
  rows : ∃ vs, RowsM W G bx G n vs f ∧ ∀ d, d < n → (vs d).ownBlock ≠ some gb
  bel : Below G w0 W
  par : ParBox W pb k s h l p
  lt : pb < G
  sz : G ≤ W.heap.size
  far : gb ≠ G
  obj : W.heap[gb]? = some o
section
variable {w0 W W' : World} {pb G bx n k s h l p gb : Nat} {o : Obj} {f f' : Nat → List Nat}
theorem GaG.congr (g : GaG w0 W pb G bx n k s h l p f gb o) (e : ∀ r, r < n → f r = f' r) : GaG w0 W pb G bx n k s h l p f' gb o := by
  obtain ⟨vs, hv, hn⟩ := g.rows
  exact ⟨⟨vs, hv.congr e, hn⟩, g.bel, g.par, g.lt, g.sz, g.far, g.obj⟩
theorem GaG.to (g : GaG w0 W pb G bx n k s h l p f gb o) : GaS w0 W pb G bx n k s h l p f := by
  obtain ⟨vs, hv, hn⟩ := g.rows
  exact ⟨⟨vs, hv⟩, g.bel, g.par, g.lt, g.sz⟩
theorem GaS.with (g : GaS w0 W pb G bx n k s h l p f) (hb : Below W.heap.size W W') (hg : W.heap.size ≤ gb) (ho : W'.heap[gb]? = some o) : GaG w0 W' pb G bx n k s h l p f gb o := by
  have g' := g.mono hb
  obtain ⟨vs, hv⟩ := g.rows
  refine ⟨⟨vs, hv.mono hb, fun d hd e => ?_⟩, g'.bel, g'.par, g'.lt, g'.sz, ?_, ho⟩
  · have := ((hv.row d hd).lt gb e).2
    omega
  · have := (hv.own.lt G rfl).2
    omega
theorem GaG.add (g : GaG w0 W pb G bx n k s h l p f gb o) {r x : Nat} (hr : r < n) (hl : ∀ d, (f d).length ≤ 100000) :
    Calls Tryz.prog 138 #[.int .i64 (r : Int), .int .i64 (x : Int), .pointer (some ⟨bx, 0, none⟩)] W fun e w' => (∃ v, e = .returned v) ∧ GaG w0 w' pb G bx n k s h l p (addAt f r x) gb o := by
  obtain ⟨vs, hv, hn⟩ := g.rows
  refine (padd_any G bx G n r x vs f hv hr hl g.sz).mono ?_
  rintro e w' ⟨he, ⟨vs', hr', hk⟩, hb⟩
  obtain ⟨k1, k2⟩ := hk gb (Array.getElem?_eq_some_iff.1 g.obj).1 g.far hn
  exact ⟨he, ⟨vs', hr', k2⟩, g.bel.trans hb, (hb.block pb g.lt).trans g.par, g.lt, Nat.le_trans g.sz hb.size, g.far, k1.trans g.obj⟩
end

set_option maxRecDepth 1000000 in
set_option maxHeartbeats 4000000 in
theorem pgather_any {w : World} (k s h l p : Nat) (H : OfP k s h l p) (hk1 : 1 ≤ k) (hk2 : k ≤ 128) :
    Calls Tryz.prog 128 #[parV k s h l p] w fun e w' => ∃ v g, e = .returned v ∧ IsGr ((h + 1) / 2) (k + s) g ∧ MatAt colV w' v (rowsP k s h g) ∧ Below w.heap.size w w' := by
  obtain ⟨i0, hi, hz0, hz1, hz2⟩ := info_parts info_ints
  obtain ⟨b1, b2, b3, b4, -⟩ := H.bounds hk1 hk2
  have ho := ofP_odd H hk1 hk2
  obtain ⟨w0, hw0, hb0, hbx⟩ := par_laid w k s h l p
  have HW0 := Lib.hid hw0
  have HB0 := Lib.hid hb0
  have HBX := Lib.hid hbx
  have HS0 : Hid (w0.heap.size = w.heap.size + 1) := Lib.hid (by rw [hw0]; simp)
  obtain ⟨c0, c1, c2, c3, c4⟩ := hbx.cells
  have HOF := Lib.hid H
  have HODD := Lib.hid ho
  clear hw0 hb0 hbx H ho
  obtain ⟨n, hn⟩ : ∃ n, n = s + h := ⟨_, rfl⟩
  have hnI : (s : Int) + (h : Int) = (n : Int) := by omega
  have HN := Lib.hid hn
  have hn29 : n ≤ 29 := by omega
  clear hn
  unfold parV parC
  go_enter Tryz.func128, Tryz.ntmps128
  go_upto_region 1 with fail
  rw [← HW0.out]
  go_upto_region 2 with (at_make; refine wpList_make_full _ rfl _ _ 91 rfl w0.heap.size 55 i0 (.slice none 0 0) 1 Tryz.underlying91 hi hz0 hz1 .i64 .i64 _ _ n rfl rfl (by omega) (by omega) (by rw [hz2]; omega) (by unfold maxLen; omega) (Nat.le_refl _) ?_; intro w1 hown hgrow; have HB1 := Lib.hid ((Below.refl w0.heap.size w0).grown hgrow (Nat.le_refl _) (fun k hk => by cases hk)); have HO1 := Lib.hid (toList_madeCells_one (.slice none 0 0) n ▸ (Nat.mul_one n ▸ hown)); clear hown hgrow)
  have HM : Hid (RowsM (w1.alloc (.cells #[.slice (some ⟨w0.heap.size, 0, none⟩) n n] 91)) w0.heap.size w1.heap.size w0.heap.size n (fun _ => nilS) (fA k s 0)) := Lib.hid ((RowsM.start (heap_alloc_new w1 _) (HO1.out.alloc _) HB1.out.size).congr fun r _ => (fA_zero k s r).symm)
  have HB2 : Hid (Below w0.heap.size w0 (w1.alloc (.cells #[.slice (some ⟨w0.heap.size, 0, none⟩) n n] 91))) := Lib.hid (HB1.out.alloc HB1.out.size _)
  have HGS : Hid (GaS w0 (w1.alloc (.cells #[.slice (some ⟨w0.heap.size, 0, none⟩) n n] 91)) w.heap.size w0.heap.size w1.heap.size n k s h l p (fA k s 0)) := Lib.hid ⟨⟨_, HM.out⟩, HB2.out, HBX.out.mono HB2.out, by have := HS0.out; omega, HB2.out.size⟩
  generalize w1.heap.size = bx at *
  generalize w0.heap.size = G at *
  generalize w1.alloc (.cells #[.slice (some ⟨G, 0, none⟩) n n] 91) = W1 at *
  clear HM HB2 HB1 HO1 c0 c1 c2 c3 c4
  obtain ⟨pb, hpb⟩ : ∃ pb, w.heap.size = pb := ⟨_, rfl⟩
  rw [hpb] at HGS ⊢
  have HPB := Lib.hid hpb
  clear hpb
  obtain ⟨c0, c1, c2, c3, c4⟩ := HGS.out.par.cells
  go_wp2_with fail
  clear c0 c1 c2 c3 c4
  go_loopw [22] (fun i wr => ∃ j : Nat, j ≤ k ∧ i = .int .i64 j ∧ GaS w0 wr pb G bx n k s h l p (fA k s j)) (fun i _ => k - (intOf i).toNat)
  case atStart => exact ⟨0, Nat.zero_le _, rfl, HGS.out⟩
  case round =>
    clear HGS
    obtain ⟨j, hj, rfl, hgs⟩ := hrel
    have HG := Lib.hid hgs
    obtain ⟨c0, c1, c2, c3, c4⟩ := hgs.par.cells
    clear hgs
    by_cases hlt : j < k
    · have hs0 : (s : Int) ≠ 0 := by omega
      have hs1 : ((s : Int) == 0) = false := by rw [beq_eq_false_iff_ne]; exact hs0
      have hs2 : (s : Int) - 1 ≠ 0 := by omega
      have hs3 : ((s : Int) - 1 == 0) = false := by rw [beq_eq_false_iff_ne]; exact hs2
      have HA : Hid (wrap64 (1 + (wrap64 ((j : Int) / (s : Int))).tmod ((s : Int) - 1)) = ((ldA s j : Nat) : Int)) := Lib.hid (ldA_int (by omega) (by omega) (by omega))
      have HBv : Hid ((j : Int) % (s : Int) = ((j % s : Nat) : Int)) := Lib.hid (Int.natCast_emod _ _).symm
      obtain ⟨l1, l2, l3, n1, n2, n3, a1, a2⟩ := three (i := j) b1 HODD.out
      have HSTEP := Lib.hid (fA_step (i := j) b1 HODD.out hlt)
      have hfl : ∀ d, (fA k s j d).length ≤ 1000 := fun d => fA_len d (by omega)
      have HF0 := Lib.hid hfl
      have HF1 : Hid (∀ d, (addAt (fA k s j) (j % s) j d).length ≤ 1001) := Lib.hid fun d => addAt_len hfl d
      have HF2 : Hid (∀ d, (addAt (addAt (fA k s j) (j % s) j) ((j % s + ldA s j) % s) j d).length ≤ 1002) := Lib.hid fun d => addAt_len (fun d => addAt_len hfl d) d
      have hY : ((j % s : Nat) : Int) + ((ldA s j : Nat) : Int) = ((j % s + ldA s j : Nat) : Int) := by omega
      have hZ : ((j % s : Nat) : Int) + 2 * ((ldA s j : Nat) : Int) = ((j % s + 2 * ldA s j : Nat) : Int) := by omega
      have hY2 : (((j % s : Nat) : Int) + ((ldA s j : Nat) : Int)) % (s : Int) = (((j % s + ldA s j) % s : Nat) : Int) := by rw [hY]; exact (Int.natCast_emod _ _).symm
      have hZ2 : (((j % s : Nat) : Int) + 2 * ((ldA s j : Nat) : Int)) % (s : Int) = (((j % s + 2 * ldA s j) % s : Nat) : Int) := by rw [hZ]; exact (Int.natCast_emod _ _).symm
      have HY2 := Lib.hid hY2
      have HZ2 := Lib.hid hZ2
      clear hY hZ hY2 hZ2 hfl n1 n2 n3
      go_wp2_with fail
      go_quiet (fail)
      rw [HA.out, HBv.out]
      have hd := below_draws (Below.refl wr.heap.size wr) nq
      have HG1 := Lib.hid (HG.out.mono hd)
      clear hd c0 c1 c2 c3 c4 HA HBv HG
      generalize j % s = x at *
      generalize ldA s j = a at *
      generalize (x + a) % s = y at *
      generalize (x + 2 * a) % s = z at *
      generalize wr.drewN nq = wq at *
      have hxn : x < n := by have := HN.out; omega
      have hyn : y < n := by have := HN.out; omega
      have hzn : z < n := by have := HN.out; omega
      have hY2 := HY2.out
      have hZ2 := HZ2.out
      go_wp2_with fail
      refine (HG1.out.add hxn (fun d => Nat.le_trans (HF0.out d) (by decide))).mono ?_
      rintro e w2 ⟨⟨v2, rfl⟩, hg2⟩
      have HG2 := Lib.hid hg2
      obtain ⟨c0, c1, c2, c3, c4⟩ := hg2.par.cells
      clear hg2
      go_wp2_with fail
      refine (HG2.out.add hyn (fun d => Nat.le_trans (HF1.out d) (by decide))).mono ?_
      rintro e w3 ⟨⟨v3, rfl⟩, hg3⟩
      have HG3 := Lib.hid hg3
      clear c0 c1 c2 c3 c4
      obtain ⟨c0, c1, c2, c3, c4⟩ := hg3.par.cells
      clear hg3
      go_wp2_with fail
      refine (HG3.out.add hzn (fun d => Nat.le_trans (HF2.out d) (by decide))).mono ?_
      rintro e w4 ⟨⟨v4, rfl⟩, hg4⟩
      rw [HSTEP.out] at hg4
      have HG4 := Lib.hid hg4
      clear c0 c1 c2 c3 c4 hg4
      go_wp2
      go_roundw
      case rel => exact ⟨j + 1, by omega, by go_num, HG4.out⟩
      case measure => simp [intOf]; omega
    · obtain rfl : j = k := by omega
      have HB : Hid (GaS w0 wr pb G bx n j s h l p (fB j s 0)) := Lib.hid (by have := HG.out; rw [fB_zero] at this; exact this)
      clear HG hlt hj
      go_wp2_with fail
      clear c0 c1 c2 c3 c4
      obtain ⟨wo, hwo⟩ : ∃ wo, wo = wr := ⟨_, rfl⟩
      subst hwo
      go_loopw [64] (fun i wr => ∃ t : Nat, t ≤ s ∧ i = .int .i64 t ∧ GaS w0 wr pb G bx n j s h l p (fB j s t)) (fun i _ => s - (intOf i).toNat)
      case atStart => exact ⟨0, Nat.zero_le _, rfl, HB.out⟩
      case round =>
        clear HB
        obtain ⟨t, ht, rfl, hgs⟩ := hrel
        have HG := Lib.hid hgs
        obtain ⟨c0, c1, c2, c3, c4⟩ := hgs.par.cells
        clear hgs
        by_cases hlt : t < s
        · have HSTEP := Lib.hid (fB_step (k := j) hlt)
          have HKT : Hid ((j : Int) + (t : Int) = ((j + t : Nat) : Int)) := Lib.hid (by omega)
          have htn : t < n := by have := HN.out; omega
          go_wp2_with fail
          rw [HKT.out]
          refine (HG.out.add (x := j + t) htn (fun d => Nat.le_trans (fB_len d (by omega)) (by decide))).mono ?_
          rintro e w2 ⟨⟨v2, rfl⟩, hg2⟩
          rw [HSTEP.out] at hg2
          have HG2 := Lib.hid hg2
          clear c0 c1 c2 c3 c4 hg2
          go_wp2
          go_roundw
          case rel => exact ⟨t + 1, by omega, by go_num, HG2.out⟩
          case measure => simp [intOf]; omega
        · obtain rfl : t = s := by omega
          have HB2 := Lib.hid HG.out
          clear HG hlt ht
          go_wp2_with fail
          obtain ⟨M, hM⟩ : ∃ M, j + t = M := ⟨_, rfl⟩
          have HMM := Lib.hid hM
          have hM1 : M ≤ 147 := by omega
          have hM2 : 1 ≤ M := by omega
          rw [show ((h : Int) + 1) / 2 = (((h + 1) / 2 : Nat) : Int) by omega, show (j : Int) + (t : Int) = (M : Int) by omega]
          clear hM
          refine (first_any ((h + 1) / 2) M (by omega) (by omega)).mono ?_
          rintro e w2 ⟨v, g, rfl, hgr, hown, hbf⟩
          rw [← HMM.out] at hgr
          obtain ⟨hgl, hgb⟩ := gr_of HOF.out hk1 hk2 hgr
          rw [HMM.out] at hgl
          have HGR := Lib.hid hgr
          have HGB := Lib.hid hgb
          have HGL := Lib.hid hgl
          rw [hgl] at hown
          obtain ⟨gb, co, cur, rfl, hgbl, hgo, hcur⟩ := own_row_block hown (by omega)
          have HG2 : Hid (GaG w0 w2 pb G bx n j t h l p (fC j t g 0 0) gb (.cells cur 3 (0, 0))) := Lib.hid (by rw [← fC_zero]; exact HB2.out.with hbf hgbl hgo)
          have HC : Hid (∀ i, i < M → cur[i]? = some (.int .i64 ((g.getD i 0 : Nat) : Int))) := Lib.hid fun i hi => by
            rw [hcur i hi]
            have hil : i < g.length := by rw [hgl]; exact hi
            simp [hil, colV]
          clear hgr hgb hgl hown hbf hgbl hgo hcur HB2 c0 c1 c2 c3 c4
          go_wp2_with fail
          obtain ⟨wo, hwo⟩ : ∃ wo, wo = w2 := ⟨_, rfl⟩
          subst hwo
          go_loopw [86] (fun i wr => ∃ q : Nat, q ≤ M ∧ i = .int .i64 q ∧ GaG w0 wr pb G bx n j t h l p (fC j t g q 0) gb (.cells cur 3 (0, 0))) (fun i _ => M - (intOf i).toNat)
          case atStart => exact ⟨0, Nat.zero_le _, rfl, HG2.out⟩
          case round =>
            clear HG2
            obtain ⟨q, hq, rfl, hgs⟩ := hrel
            have HG := Lib.hid hgs
            obtain ⟨c0, c1, c2, c3, c4⟩ := hgs.par.cells
            have hob := hgs.obj
            clear hgs
            by_cases hlt : q < M
            · have hcx := cell_of_heap (j := q) hob (HC.out q hlt)
              have hX : g.getD q 0 < 2 ^ h ∧ pop (g.getD q 0) = (h + 1) / 2 := HGB.out _ (by
                have hil : q < g.length := by rw [HGL.out]; exact hlt
                rw [List.getD_eq_getElem?_getD, List.getElem?_eq_getElem hil]
                exact List.getElem_mem hil)
              have hp2 : 2 ^ h ≤ 2 ^ 10 := Nat.pow_le_pow_right (by decide) b3
              obtain ⟨X, hXe⟩ : ∃ X, g.getD q 0 = X := ⟨_, rfl⟩
              rw [hXe] at hcx hX
              have HX := Lib.hid hXe
              have hX1 : X < 1024 := by have := hX.1; omega
              clear hX hp2 hXe hob
              go_wp2_with fail
              obtain ⟨wp, hwp⟩ : ∃ wp, wp = wr := ⟨_, rfl⟩
              subst hwp
              clear c0 c1 c2 c3 c4 hcx
              go_loopw [93] (fun i wr => ∃ y : Nat, y ≤ h ∧ i = .int .i64 y ∧ GaG w0 wr pb G bx n j t h l p (fC j t g q y) gb (.cells cur 3 (0, 0))) (fun i _ => h - (intOf i).toNat)
              case atStart => exact ⟨0, Nat.zero_le _, rfl, HG.out⟩
              case round =>
                clear HG
                obtain ⟨y, hy, rfl, hgs⟩ := hrel
                have HG := Lib.hid hgs
                obtain ⟨c0, c1, c2, c3, c4⟩ := hgs.par.cells
                clear hgs
                by_cases hly : y < h
                · have HTY : Hid ((t : Int) + (y : Int) = ((t + y : Nat) : Int)) := Lib.hid (by omega)
                  have htn : t + y < n := by have := HN.out; omega
                  by_cases hbit : X.testBit y = true
                  · have HSTEP := Lib.hid (fC_one (k := j) (s := t) (g := g) (j := q) (y := y) (by rw [HX.out]; exact hbit))
                    have hbv : (bits BinOp.and IntKind.i64 ((X : Int) / 2 ^ y) 1 == 1) = true := by rw [and_one_i64, shr_mod_two]; exact hbit
                    clear hbit
                    go_wp2_with fail
                    rw [HTY.out]
                    refine (HG.out.add (x := q) htn (fun d => Nat.le_trans (fC_len d (by omega) (by omega)) (by decide))).mono ?_
                    rintro e w3 ⟨⟨v3, rfl⟩, hg3⟩
                    rw [HSTEP.out] at hg3
                    have HG3 := Lib.hid hg3
                    clear c0 c1 c2 c3 c4 hg3
                    go_wp2
                    go_roundw
                    case rel => exact ⟨y + 1, by omega, by go_num, HG3.out⟩
                    case measure => simp [intOf]; omega
                  · have hbit : X.testBit y = false := by simpa using hbit
                    have HSTEP := Lib.hid (fC_none (k := j) (s := t) (g := g) (j := q) (y := y) (by rw [HX.out]; exact hbit))
                    have hbv : (bits BinOp.and IntKind.i64 ((X : Int) / 2 ^ y) 1 == 1) = false := by rw [and_one_i64, shr_mod_two]; exact hbit
                    clear hbit
                    go_wp2
                    go_roundw
                    case rel => exact ⟨y + 1, by omega, by go_num, by rw [← HSTEP.out]; exact HG.out⟩
                    case measure => simp [intOf]; omega
                · obtain rfl : y = h := by omega
                  have HG3 : Hid (GaG w0 wr pb G bx n j t y l p (fC j t g (q + 1) 0) gb (.cells cur 3 (0, 0))) := Lib.hid (HG.out.congr fun r hr => fC_next (by have := HN.out; omega))
                  clear HG
                  go_wp2
                  go_roundw
                  case rel => exact ⟨q + 1, by omega, by go_num, HG3.out⟩
                  case measure => simp [intOf]; omega
            · obtain rfl : q = M := by omega
              have HD : Hid (GaS w0 wr pb G bx n j t h l p (fD j t g 0)) := Lib.hid (by rw [← fD_zero, HMM.out]; exact HG.out.to)
              clear HG hob hq
              go_wp2_with fail
              obtain ⟨wp, hwp⟩ : ∃ wp, wp = wr := ⟨_, rfl⟩
              subst hwp
              clear c0 c1 c2 c3 c4
              go_loopw [112] (fun i wr => ∃ y : Nat, y ≤ h ∧ i = .int .i64 y ∧ GaS w0 wr pb G bx n j t h l p (fD j t g y)) (fun i _ => h - (intOf i).toNat)
              case atStart => exact ⟨0, Nat.zero_le _, rfl, HD.out⟩
              case round =>
                clear HD
                obtain ⟨y, hy, rfl, hgs⟩ := hrel
                have HG := Lib.hid hgs
                obtain ⟨c0, c1, c2, c3, c4⟩ := hgs.par.cells
                clear hgs
                by_cases hly : y < h
                · have HTY : Hid ((t : Int) + (y : Int) = ((t + y : Nat) : Int)) := Lib.hid (by omega)
                  have HJY : Hid ((j : Int) + (t : Int) + (y : Int) = ((j + t + y : Nat) : Int)) := Lib.hid (by omega)
                  have htn : t + y < n := by have := HN.out; omega
                  have HSTEP := Lib.hid (fD_step (k := j) (s := t) (g := g) (y := y))
                  go_wp2_with fail
                  rw [HTY.out, HJY.out]
                  refine (HG.out.add (x := j + t + y) htn (fun d => Nat.le_trans (fD_len d (by omega)) (by decide))).mono ?_
                  rintro e w3 ⟨⟨v3, rfl⟩, hg3⟩
                  rw [HSTEP.out] at hg3
                  have HG3 := Lib.hid hg3
                  clear c0 c1 c2 c3 c4 hg3
                  go_wp2
                  go_roundw
                  case rel => exact ⟨y + 1, by omega, by go_num, HG3.out⟩
                  case measure => simp [intOf]; omega
                · obtain rfl : y = h := by omega
                  obtain ⟨vs, hvs⟩ := HG.out.rows
                  have hcb := cell_of_heap (j := 0) (u := .slice (some ⟨G, 0, none⟩) n n) hvs.box rfl
                  have HAT : Hid (MatAt colV wr (.slice (some ⟨G, 0, none⟩) n n) (rowsP j t y g)) := Lib.hid (by rw [← fD_end, ← HN.out]; exact hvs.at)
                  have HBE := Lib.hid HG.out.bel
                  clear hvs
                  go_wp2
                  go_ret
                  exact ⟨_, g, rfl, HGR.out, HAT.out, HB0.out.trans (HBE.out.mono (by have := HS0.out; have := HPB.out; omega))⟩
end Go.Proofs.YtkhdjjcflbdegaaGreatDoor
end

section
/- Package precode: right numbers; All, Row, Gray, In where they answer; slices.Contains. -/
namespace Go.Proofs.YtkhdjjcflbdegaaGreatDoor
open Go.RowKit Go.Extern.Stop Go.Stop Go.Extern

set_option maxRecDepth 1000000 in
set_option maxHeartbeats 1000000 in
theorem right_ok {w : World} (k s h l p : Nat) (H : OfP k s h l p) (hk1 : 1 ≤ k) (hk2 : k ≤ 128) :
    Calls Tryz.prog 127 #[parV k s h l p] w fun e w' => e = .returned .nilIface ∧ Below w.heap.size w w' := by
  obtain ⟨w0, hw0, hb0, hbx⟩ := par_laid w k s h l p
  have HW0 := Lib.hid hw0
  have HB0 := Lib.hid hb0
  have HBX := Lib.hid hbx
  obtain ⟨c0, c1, c2, c3, c4⟩ := hbx.cells
  have HOF := Lib.hid H
  clear hw0 hb0 hbx H
  unfold parV parC
  go_enter Tryz.func127, Tryz.ntmps127
  go_wp2_with fail
  rw [← HW0.out]
  refine (Of_in k hk1 hk2).mono ?_
  rintro e w1 ⟨s', h', l', p', rfl, hof, hb1⟩
  obtain ⟨rfl, rfl, rfl, rfl⟩ := hof.unique HOF.out
  obtain ⟨W, hW, hbW, hby⟩ := par_laid w1 k s' h' l' p'
  have HW := Lib.hid hW
  have HB1 := Lib.hid (hb1.trans (hbW.mono hb1.size))
  have hbx2 := HBX.out.mono HB1.out
  clear c0 c1 c2 c3 c4
  obtain ⟨c0, c1, c2, c3, c4⟩ := hbx2.cells
  obtain ⟨d0, d1, d2, d3, d4⟩ := hby.cells
  clear hb1 hof hW hbW hby hbx2
  unfold parV parC
  go_upto_region 2 with fail
  rw [← HW.out]
  generalize w1.heap.size = g1 at *
  go_wp2
  go_ret
  exact ⟨rfl, HB0.out.trans (HB1.out.mono HB0.out.size)⟩

set_option maxRecDepth 1000000 in
set_option maxHeartbeats 1000000 in
theorem All_ok {w : World} (k s h l p : Nat) (H : OfP k s h l p) (hk1 : 1 ≤ k) (hk2 : k ≤ 128) :
    Calls Tryz.prog 99 #[parV k s h l p] w fun e w' => ∃ v g, e = .returned (.tuple #[v, .nilIface]) ∧ IsGr ((h + 1) / 2) (k + s) g ∧ MatAt colV w' v (rowsP k s h g) ∧ Below w.heap.size w w' := by
  obtain ⟨w0, hw0, hb0, hbx⟩ := par_laid w k s h l p
  have HW0 := Lib.hid hw0
  have HB0 := Lib.hid hb0
  have HBX := Lib.hid hbx
  obtain ⟨c0, c1, c2, c3, c4⟩ := hbx.cells
  have HR : Hid (∀ w, Calls Tryz.prog 127 #[.agg #[.int .i64 (k : Int), .int .i64 (s : Int), .int .i64 (h : Int), .int .i64 (l : Int), .int .i64 (p : Int)]] w fun e w' => e = .returned .nilIface ∧ Below w.heap.size w w') := Lib.hid fun w => right_ok k s h l p H hk1 hk2
  have HGA : Hid (∀ w, Calls Tryz.prog 128 #[.agg #[.int .i64 (k : Int), .int .i64 (s : Int), .int .i64 (h : Int), .int .i64 (l : Int), .int .i64 (p : Int)]] w fun e w' => ∃ v g, e = .returned v ∧ IsGr ((h + 1) / 2) (k + s) g ∧ MatAt colV w' v (rowsP k s h g) ∧ Below w.heap.size w w') := Lib.hid fun w => pgather_any k s h l p H hk1 hk2
  clear hw0 hb0 hbx H
  unfold parV parC
  go_enter Tryz.func99, Tryz.ntmps99
  go_upto_region 1 with fail
  rw [← HW0.out]
  go_wp2_with fail
  refine (HR.out _).mono ?_
  rintro e w1 ⟨rfl, hb1⟩
  have HB1 := Lib.hid (HB0.out.trans (hb1.mono HB0.out.size))
  have hbx2 := HBX.out.mono hb1
  clear c0 c1 c2 c3 c4
  obtain ⟨c0, c1, c2, c3, c4⟩ := hbx2.cells
  clear hb1 hbx2
  go_wp2_with fail
  refine (HGA.out _).mono ?_
  rintro e w2 ⟨v, g, rfl, hg, hm, hb2⟩
  have HG := Lib.hid hg
  have HM := Lib.hid hm
  have HB2 := Lib.hid (HB1.out.trans (hb2.mono HB1.out.size))
  clear hg hm hb2 c0 c1 c2 c3 c4
  go_wp2
  go_ret2
  exact ⟨_, g, rfl, HG.out, HM.out, HB2.out⟩

theorem cols_mem {l : List Nat} {x : Nat} : (x : Int) ∈ l.map Int.ofNat ↔ x ∈ l := by
  rw [List.mem_map]
  constructor
  · rintro ⟨y, hy, e⟩
    have : y = x := by have e' : (y : Int) = (x : Int) := e; omega
    exact this ▸ hy
  · intro h; exact ⟨x, h, rfl⟩
end Go.Proofs.YtkhdjjcflbdegaaGreatDoor
end

section
/- Package precode: In, Gray where they answer. -/
namespace Go.Proofs.YtkhdjjcflbdegaaGreatDoor
open Go.RowKit Go.Extern.Stop Go.Stop Go.Extern

def withTo (R : List (List Nat)) (place q : Nat) : List Nat := (List.range q).filter fun i => decide (place ∈ R.getD i [])
theorem withTo_all (R : List (List Nat)) (place : Nat) : withTo R place R.length = rowsWith R place := rfl
theorem withTo_len (R : List (List Nat)) (place q : Nat) : (withTo R place q).length ≤ q := fr_len _ _

def nameGray : ByteArray := ⟨#[112, 114, 101, 99, 111, 100, 101, 46, 71, 114, 97, 121]⟩
end Go.Proofs.YtkhdjjcflbdegaaGreatDoor
end

section
/- The document's rows: ldpc, Rows, In. -/
namespace Go.Proofs.YtkhdjjcflbdegaaGreatDoor
open Go.RowKit Go.Extern.Stop Go.Stop Go.Extern

set_option maxRecDepth 1000000 in
set_option maxHeartbeats 1000000 in
theorem ldpc_any {w : World} (k s h l p r i : Nat) (h3 : 3 ≤ s) (hs : s ≤ 19) (hk : k ≤ 128) (hr : r < s) (hi : i < k + s) :
    Calls Tryz.prog 111 #[parV k s h l p, .int .i64 (r : Int), .int .i64 (i : Int)] w fun e w' => e = .returned (.bool (ldB k s r i)) ∧ Below w.heap.size w w' := by
  obtain ⟨w0, hw0, hb0, hbx⟩ := par_laid w k s h l p
  have HW0 := Lib.hid hw0
  have HB0 := Lib.hid hb0
  obtain ⟨c0, c1, c2, c3, c4⟩ := hbx.cells
  clear hw0 hb0 hbx
  unfold parV parC
  by_cases hki : k ≤ i
  · have HE := Lib.hid (ldB_far (s := s) (row := r) hki)
    have d1 : decide ((k : Int) ≤ (i : Int)) = true := decide_eq_true (by omega)
    have d2 : decide (k ≤ i) = true := decide_eq_true hki
    by_cases he : i = k + r
    · have HD := Lib.hid (HE.out.trans (decide_eq_true he))
      have hb : ((i : Int) == (k : Int) + (r : Int)) = true := by rw [beq_iff_eq]; omega
      clear he
      go_enter Tryz.func111, Tryz.ntmps111
      go_upto_region 1 with fail
      rw [← HW0.out]
      go_wp2
      go_ret
      exact ⟨by rw [HD.out]; rfl, HB0.out⟩
    · have HD := Lib.hid (HE.out.trans (decide_eq_false he))
      have hb : ((i : Int) == (k : Int) + (r : Int)) = false := by rw [beq_eq_false_iff_ne]; omega
      clear he
      go_enter Tryz.func111, Tryz.ntmps111
      go_upto_region 1 with fail
      rw [← HW0.out]
      go_wp2
      go_ret
      exact ⟨by rw [HD.out]; rfl, HB0.out⟩
  · have HE := Lib.hid (ldB_near (s := s) (row := r) (show i < k by omega))
    have d1 : decide ((k : Int) ≤ (i : Int)) = false := decide_eq_false (by omega)
    have d2 : decide (k ≤ i) = false := decide_eq_false hki
    have hs0 : (s : Int) ≠ 0 := by omega
    have hs1 : ((s : Int) == 0) = false := by rw [beq_eq_false_iff_ne]; exact hs0
    have hs2 : (s : Int) - 1 ≠ 0 := by omega
    have hs3 : ((s : Int) - 1 == 0) = false := by rw [beq_eq_false_iff_ne]; exact hs2
    have HA : Hid (wrap64 (1 + (wrap64 ((i : Int) / (s : Int))).tmod ((s : Int) - 1)) = ((ldA s i : Nat) : Int)) := Lib.hid (ldA_int h3 (by omega) (by omega))
    have HBv : Hid ((i : Int) % (s : Int) = ((i % s : Nat) : Int)) := Lib.hid (Int.natCast_emod _ _).symm
    have l1 : i % s < s := Nat.mod_lt _ (by omega)
    have a1 : ldA s i ≤ s := by unfold ldA; have := Nat.mod_lt (i / s) (show s - 1 > 0 by omega); omega
    have l2 : (i % s + ldA s i) % s < s := Nat.mod_lt _ (by omega)
    have l3 : (i % s + 2 * ldA s i) % s < s := Nat.mod_lt _ (by omega)
    have hY : ((i % s : Nat) : Int) + ((ldA s i : Nat) : Int) = ((i % s + ldA s i : Nat) : Int) := by omega
    have hZ : ((i % s : Nat) : Int) + 2 * ((ldA s i : Nat) : Int) = ((i % s + 2 * ldA s i : Nat) : Int) := by omega
    have hY2 : (((i % s : Nat) : Int) + ((ldA s i : Nat) : Int)) % (s : Int) = (((i % s + ldA s i) % s : Nat) : Int) := by rw [hY]; exact (Int.natCast_emod _ _).symm
    have hZ2 : (((i % s : Nat) : Int) + 2 * ((ldA s i : Nat) : Int)) % (s : Int) = (((i % s + 2 * ldA s i) % s : Nat) : Int) := by rw [hZ]; exact (Int.natCast_emod _ _).symm
    have HY2 := Lib.hid hY2
    have HZ2 := Lib.hid hZ2
    obtain ⟨x, hx⟩ : ∃ x, i % s = x := ⟨_, rfl⟩
    obtain ⟨a, ha⟩ : ∃ a, ldA s i = a := ⟨_, rfl⟩
    rw [hx] at HE HBv HY2 HZ2 l1 l2 l3
    rw [ha] at HE HA HY2 HZ2 a1 l2 l3
    obtain ⟨y, hy⟩ : ∃ y, (x + a) % s = y := ⟨_, rfl⟩
    obtain ⟨z, hz⟩ : ∃ z, (x + 2 * a) % s = z := ⟨_, rfl⟩
    rw [hy] at HE HY2 l2
    rw [hz] at HE HZ2 l3
    have HP : Hid ((r = x ∧ ((r : Int) == (x : Int)) = true) ∨ (r ≠ x ∧ ((r : Int) == (x : Int)) = false)) := Lib.hid (by
      by_cases e : r = x
      · exact .inl ⟨e, by rw [beq_iff_eq]; omega⟩
      · exact .inr ⟨e, by rw [beq_eq_false_iff_ne]; omega⟩)
    have HQ : Hid ((r = y ∧ ((r : Int) == (y : Int)) = true) ∨ (r ≠ y ∧ ((r : Int) == (y : Int)) = false)) := Lib.hid (by
      by_cases e : r = y
      · exact .inl ⟨e, by rw [beq_iff_eq]; omega⟩
      · exact .inr ⟨e, by rw [beq_eq_false_iff_ne]; omega⟩)
    have HS : Hid ((r = z ∧ ((r : Int) == (z : Int)) = true) ∨ (r ≠ z ∧ ((r : Int) == (z : Int)) = false)) := Lib.hid (by
      by_cases e : r = z
      · exact .inl ⟨e, by rw [beq_iff_eq]; omega⟩
      · exact .inr ⟨e, by rw [beq_eq_false_iff_ne]; omega⟩)
    clear hY hZ hY2 hZ2 hx ha hy hz
    go_enter Tryz.func111, Tryz.ntmps111
    go_upto_region 1 with fail
    rw [← HW0.out]
    go_wp2_with fail
    go_quiet (fail)
    have hd := below_draws (Below.refl w0.heap.size w0) nq
    have HB1 := Lib.hid (HB0.out.trans (hd.mono HB0.out.size))
    rw [HA.out]
    clear hd
    have c0 : (w0.drewN nq).cell? ⟨w.heap.size, 0, none⟩ = some (.int .i64 (k : Int)) := c0
    have c1 : (w0.drewN nq).cell? ⟨w.heap.size, 1, none⟩ = some (.int .i64 (s : Int)) := c1
    generalize w0.drewN nq = wq at *
    have hbv := HBv.out
    have hY2 := HY2.out
    have hZ2 := HZ2.out
    rcases HP.out with ⟨e1, p1⟩ | ⟨e1, p1⟩
    · have HD : Hid (ldB k s r i = true) := Lib.hid (by rw [HE.out, decide_eq_true e1]; rfl)
      clear e1
      go_wp2
      go_ret
      exact ⟨by rw [HD.out]; rfl, HB1.out⟩
    · rcases HQ.out with ⟨e2, p2⟩ | ⟨e2, p2⟩
      · have HD : Hid (ldB k s r i = true) := Lib.hid (by rw [HE.out, decide_eq_true e2]; simp)
        clear e1 e2
        go_wp2
        go_ret
        exact ⟨by rw [HD.out]; rfl, HB1.out⟩
      · rcases HS.out with ⟨e3, p3⟩ | ⟨e3, p3⟩
        · have HD : Hid (ldB k s r i = true) := Lib.hid (by rw [HE.out, decide_eq_true e3]; simp)
          clear e1 e2 e3
          go_wp2
          go_ret
          exact ⟨by rw [HD.out]; rfl, HB1.out⟩
        · have HD : Hid (ldB k s r i = false) := Lib.hid (by rw [HE.out, decide_eq_false e1, decide_eq_false e2, decide_eq_false e3]; rfl)
          clear e1 e2 e3
          go_wp2
          go_ret
          exact ⟨by rw [HD.out]; rfl, HB1.out⟩

theorem range_map_succ {α : Type} (f : Nat → α) (n : Nat) : (List.range (n + 1)).map f = (List.range n).map f ++ [f n] := by rw [List.range_succ, List.map_append]; rfl

set_option maxRecDepth 1000000 in
set_option maxHeartbeats 8000000 in
theorem rRows_new {w : World} (k s h l p : Nat) (H : OfP k s h l p) (hk1 : 1 ≤ k) (hk2 : k ≤ 128) :
    Calls Tryz.prog 75 #[parV k s h l p] w fun e w' => ∃ v g, e = .returned v ∧ IsGr ((h + 1) / 2) (k + s) g ∧ MatFresh colV 3 w.heap.size 55 w' v (rowsP k s h g) ∧ Below w.heap.size w w' := by
  obtain ⟨i0, hi0, hz0, hz1, hz2⟩ := info_parts info_int
  obtain ⟨j0, hj0, jz0, jz1, jz2⟩ := info_parts info_ints
  obtain ⟨w0, hw0, hb0, hbx⟩ := par_laid w k s h l p
  have HW0 := Lib.hid hw0
  have HB0 := Lib.hid hb0
  have HBX := Lib.hid hbx
  obtain ⟨c0, c1, c2, c3, c4⟩ := hbx.cells
  obtain ⟨b1, b2, b3, b4, b5, b6, b7⟩ := H.bounds hk1 hk2
  have HOF := Lib.hid H
  clear hw0 hb0 hbx H
  unfold parV parC
  go_enter Tryz.func75, Tryz.ntmps75
  go_upto_region 1 with fail
  rw [← HW0.out]
  go_wp2_with fail
  obtain ⟨M, hM⟩ : ∃ M, k + s = M := ⟨_, rfl⟩
  have HMM := Lib.hid hM
  have hM1 : M ≤ 147 := by omega
  have hM2 : 1 ≤ M := by omega
  rw [show ((h : Int) + 1) / 2 = (((h + 1) / 2 : Nat) : Int) by omega, show (k : Int) + (s : Int) = (M : Int) by omega]
  clear hM
  refine (rGray_any ((h + 1) / 2) M (by omega) (by omega)).mono ?_
  rintro e w1 ⟨vg, g, rfl, hgr, hgl, hb1⟩
  have HGR := Lib.hid hgr
  rw [← HMM.out] at hgr
  obtain ⟨hln, hgb⟩ := gr_of HOF.out hk1 hk2 hgr
  rw [HMM.out] at hln
  have HGB := Lib.hid hgb
  have HLN := Lib.hid hln
  obtain ⟨ag, cg, rfl, hcg, -, hcell⟩ := hgl
  rw [hln] at hcg ⊢
  obtain ⟨bg, og, rfl, hgc⟩ := hcell (by rw [hln]; omega)
  have HC : Hid (∀ i, i < M → w1.cell? ⟨bg, og + i, none⟩ = some (.int .i64 ((g.getD i 0 : Nat) : Int))) := Lib.hid fun i hi => by
    have hil : i < g.length := by rw [hln]; exact hi
    rw [hgc i hil]
    simp [hil, colV]
  have HBX1 := Lib.hid (HBX.out.mono hb1)
  have HB1 := Lib.hid (HB0.out.trans (hb1.mono HB0.out.size))
  clear hgr hln hgb hb1 hcell hgc c0 c1 c2 c3 c4
  go_wp2
  go_loopw [4, 5] (fun o i wr => ∃ r : Nat, r ≤ s ∧ i = .int .i64 r ∧ MatFresh colV 3 w1.heap.size 55 wr o ((List.range r).map (rowL k s)) ∧ Below w1.heap.size w1 wr) (fun _ i _ => s - (intOf i).toNat)
  case atStart => exact ⟨0, Nat.zero_le _, rfl, MatFresh.start w1 (Nat.le_refl _), (Below.refl _ _).alloc (Nat.le_refl _) _⟩
  case round =>
    obtain ⟨r, hr, rfl, hmo, hbel⟩ := hrel
    have hsz := hbel.size
    have HMO := Lib.hid hmo
    have HB := Lib.hid hbel
    obtain ⟨c0, c1, c2, c3, c4⟩ := (HBX1.out.mono hbel).cells
    clear hmo hbel
    by_cases hlt : r < s
    · go_wp2_with fail
      obtain ⟨wo, hwo⟩ : ∃ wo, wo = wr := ⟨_, rfl⟩
      subst hwo
      clear c0 c1 c2 c3 c4
      go_loopw [6, 7] (fun o i wr => ∃ q m : Nat, q ≤ M ∧ i = .int .i64 q ∧ ((List.range q).filter (ldB k s r)).length = m ∧ wr.ownsRow wo.heap.size 3 1 o m (((List.range q).filter (ldB k s r)).map colV) ∧ Below wo.heap.size wo wr) (fun _ i _ => M - (intOf i).toNat)
      case atStart => exact ⟨0, 0, Nat.zero_le _, rfl, rfl, World.ownsRow_made (base := wo.heap.size) (e := 3) (size := 1) wo #[] 0 (Nat.le_refl _) (by decide) rfl, (Below.refl _ _).alloc (Nat.le_refl _) _⟩
      case round =>
        obtain ⟨q, m, hq, rfl, hm, hown, hbel⟩ := hrel
        have hsz2 := hbel.size
        have HMQ := Lib.hid hm
        have hmq : m ≤ q := by rw [← hm]; exact fr_len _ _
        have HO := Lib.hid hown
        have HB2 := Lib.hid hbel
        have hbx2 := HBX1.out.mono (HB.out.trans (hbel.mono hsz))
        have HBX2 := Lib.hid hbx2
        obtain ⟨c0, c1, c2, c3, c4⟩ := hbx2.cells
        obtain ⟨ao, co, rfl, -, -⟩ := own_open hown
        have HKS : Hid ((k : Int) + (s : Int) = (M : Int)) := Lib.hid (by have := HMM.out; omega)
        have hks := HKS.out
        clear hm hown hbel hbx2
        by_cases hlq : q < M
        · have HLD : Hid (∀ W, Calls Tryz.prog 111 #[.agg #[.int .i64 (k : Int), .int .i64 (s : Int), .int .i64 (h : Int), .int .i64 (l : Int), .int .i64 (p : Int)], .int .i64 (r : Int), .int .i64 (q : Int)] W fun e w' => e = .returned (.bool (ldB k s r q)) ∧ Below W.heap.size W w') := Lib.hid fun W => ldpc_any k s h l p r q b1 b2 hk2 hlt (by have := HMM.out; omega)
          cases hl : ldB k s r q with
          | true =>
            rw [hl] at HLD
            have HS : Hid ((List.range (q + 1)).filter (ldB k s r) = (List.range q).filter (ldB k s r) ++ [q]) := Lib.hid (fr_one hl)
            clear hl
            go_wp2_with fail
            refine (HLD.out _).mono ?_
            rintro e w2 ⟨rfl, hb2⟩
            have HO2 := Lib.hid (owns_kept HO.out hb2)
            have HB3 := Lib.hid (HB2.out.trans (hb2.mono hsz2))
            have hsz3 := HB3.out.size
            clear c0 c1 c2 c3 c4 hb2
            go_wp2_with (at_builtin; refine wpList_append_own _ rfl (.tmp 42) (.tmp 44) 55 rfl wo.heap.size 3 i0 (.int .i64 0) 1 8 Tryz.underlying55 hi0 hz0 hz1 hz2 rfl (by decide) (.slice ao m co) m (((List.range q).filter (ldB k s r)).map colV) rfl (HO2.out.alloc _) ⟨w2.heap.size, 0, none⟩ 1 1 [.int .i64 (q : Int)] rfl rfl (cell_one_new _ _ _) (fun x hx => by simp at hx; subst hx; rfl) (by unfold maxLen; omega) (by omega) (by simp; omega) ?_; intro v2 w4 hown1 hgrow1 _; have hb3 := Lib.hid ((HB3.out.alloc hsz3 _).grown hgrow1 (by simp; omega) (fun k hk => (HO2.out.lt k hk).1)); have ho2 := Lib.hid hown1; clear hown1 hgrow1)
            go_roundw
            case rel => exact ⟨q + 1, m + 1, by omega, by go_num, by rw [HS.out, List.length_append, HMQ.out]; rfl, by rw [HS.out, List.map_append]; exact ho2.out, hb3.out⟩
            case measure => simp [intOf]; omega
          | false =>
            rw [hl] at HLD
            have HS : Hid ((List.range (q + 1)).filter (ldB k s r) = (List.range q).filter (ldB k s r)) := Lib.hid (fr_none hl)
            clear hl
            go_wp2_with fail
            refine (HLD.out _).mono ?_
            rintro e w2 ⟨rfl, hb2⟩
            have HO2 := Lib.hid (owns_kept HO.out hb2)
            have HB3 := Lib.hid (HB2.out.trans (hb2.mono hsz2))
            clear c0 c1 c2 c3 c4 hb2
            go_wp2
            go_roundw
            case rel => exact ⟨q + 1, m, by omega, by go_num, by rw [HS.out]; exact HMQ.out, by rw [HS.out]; exact HO2.out, HB3.out⟩
            case measure => simp [intOf]; omega
        · obtain rfl : q = M := by omega
          obtain ⟨vs, hown, hel, hfr⟩ := HMO.out.mono HB2.out
          have HFR := Lib.hid hfr
          rw [List.length_map, List.length_range] at hown
          have HO3 := Lib.hid hown
          have HEL := Lib.hid hel
          have HEN : Hid (ElAt colV 3 w1.heap.size wr (.slice ao m co) (rowL k s r)) := Lib.hid (by
            have := HO.out
            unfold rowL
            rw [HMM.out]
            exact ElAt.own this)
          have HB3 := Lib.hid (HB.out.trans (HB2.out.mono hsz))
          have hsz3 := HB3.out.size
          clear hown hel hfr
          go_wp2_with (at_builtin; refine wpList_append_own _ rfl (.tmp 46) (.tmp 48) 91 rfl w1.heap.size 55 j0 (.slice none 0 0) 1 24 Tryz.underlying91 hj0 jz0 jz1 jz2 rfl (by decide) u4 r vs rfl (HO3.out.alloc _) ⟨wr.heap.size, 0, none⟩ 1 1 [.slice ao m co] rfl rfl (cell_one_new _ _ _) (fun x hx => by simp at hx; subst hx; rfl) (by unfold maxLen; omega) (by omega) (by simp; omega) ?_; intro v2 w4 hown1 hgrow1 _; have hb3 := Lib.hid ((HB3.out.alloc hsz3 _).grown hgrow1 (by simp; omega) (fun k hk => (HO3.out.lt k hk).1)); have ho2 : Hid (MatFresh colV 3 w1.heap.size 55 w4 v2 ((List.range r).map (rowL k s) ++ [rowL k s r])) := Lib.hid (MatFresh.app HFR.out (fun b hb => Nat.le_trans hsz (HO.out.lt b hb).1) (by decide) (by rw [List.length_map, List.length_range]; exact HO3.out) HEL.out HEN.out (by rw [List.length_map, List.length_range]; exact hown1) hgrow1); clear hown1 hgrow1)
          go_roundw
          case rel => exact ⟨r + 1, by omega, by go_num, by rw [range_map_succ]; exact ho2.out, hb3.out⟩
          case measure => simp [intOf]; omega
    · obtain rfl : r = s := by omega
      have HLL : ∀ x, ((List.range r).map (rowL k r) ++ (List.range x).map (rowH k r g)).length = r + x := fun x => by simp
      have HLEN := Lib.hid HLL
      clear HLL
      go_wp2_with fail
      obtain ⟨wa, hwa⟩ : ∃ wa, wa = wr := ⟨_, rfl⟩
      subst hwa
      clear c0 c1 c2 c3 c4
      go_loopw [4, 8] (fun o i wr => ∃ x : Nat, x ≤ h ∧ i = .int .i64 x ∧ MatFresh colV 3 w1.heap.size 55 wr o ((List.range r).map (rowL k r) ++ (List.range x).map (rowH k r g)) ∧ Below w1.heap.size w1 wr) (fun _ i _ => h - (intOf i).toNat)
      case atStart => exact ⟨0, Nat.zero_le _, rfl, by rw [show (List.range 0).map (rowH k r g) = [] from rfl, List.append_nil]; exact HMO.out, HB.out⟩
      case round =>
        clear HMO HB
        obtain ⟨x, hx, rfl, hmo, hbel⟩ := hrel
        have hsz := hbel.size
        have HMO := Lib.hid hmo
        have HB := Lib.hid hbel
        obtain ⟨c0, c1, c2, c3, c4⟩ := (HBX1.out.mono hbel).cells
        clear hmo hbel
        by_cases hlx : x < h
        · go_wp2_with fail
          obtain ⟨wo, hwo⟩ : ∃ wo, wo = wr := ⟨_, rfl⟩
          subst hwo
          clear c0 c1 c2 c3 c4
          go_loopw [9, 10] (fun o i wr => ∃ q m : Nat, q ≤ M ∧ i = .int .i64 q ∧ (colB g q x).length = m ∧ wr.ownsRow wo.heap.size 3 1 o m ((colB g q x).map colV) ∧ Below wo.heap.size wo wr) (fun _ i _ => M - (intOf i).toNat)
          case atStart => exact ⟨0, 0, Nat.zero_le _, rfl, rfl, World.ownsRow_made (base := wo.heap.size) (e := 3) (size := 1) wo #[] 0 (Nat.le_refl _) (by decide) rfl, (Below.refl _ _).alloc (Nat.le_refl _) _⟩
          case round =>
            obtain ⟨q, m, hq, rfl, hm, hown, hbel⟩ := hrel
            have hsz2 := hbel.size
            have HMQ := Lib.hid hm
            have hmq : m ≤ q := by rw [← hm]; exact fr_len _ _
            have HO := Lib.hid hown
            have HB2 := Lib.hid hbel
            have hb12 := HB.out.trans (hbel.mono hsz)
            have HB12 := Lib.hid hb12
            obtain ⟨c0, c1, c2, c3, c4⟩ := (HBX1.out.mono hb12).cells
            obtain ⟨ao, co, rfl, -, -⟩ := own_open hown
            have HKS : Hid ((k : Int) + (r : Int) = (M : Int)) := Lib.hid (by have := HMM.out; omega)
            have hks := HKS.out
            clear hm hown hbel
            by_cases hlq : q < M
            · have hcx := HC.out q hlq
              have hcy := (hb12.cell (p := ⟨bg, og + q, none⟩) (World.block_lt_of_cell? w1 _ hcx)).trans hcx
              have hX : g.getD q 0 < 2 ^ h ∧ pop (g.getD q 0) = (h + 1) / 2 := HGB.out _ (by
                have hil : q < g.length := by rw [HLN.out]; exact hlq
                rw [List.getD_eq_getElem?_getD, List.getElem?_eq_getElem hil]
                exact List.getElem_mem hil)
              have hp2 : 2 ^ h ≤ 2 ^ 10 := Nat.pow_le_pow_right (by decide) b3
              have HT1 : Hid ((g.getD q 0).testBit x = true → colB g (q + 1) x = colB g q x ++ [q]) := Lib.hid colB_one
              have HT2 : Hid ((g.getD q 0).testBit x = false → colB g (q + 1) x = colB g q x) := Lib.hid colB_none
              have hX1 : g.getD q 0 < 1024 := by have := hX.1; omega
              clear hcx hX hp2 hb12
              generalize g.getD q 0 = X at *
              cases hl : X.testBit x with
              | true =>
                have HS := Lib.hid (HT1.out hl)
                have HLD : Hid (∀ W, Calls Tryz.prog 112 #[.int .u64 (X : Int), .int .i64 (x : Int)] W fun e w' => e = .returned (.bool true) ∧ W = w') := Lib.hid fun W => by
                  have := Bit_any (w := W) X x (by omega)
                  rw [hl] at this
                  exact this
                clear hl HT1 HT2
                go_wp2_with fail
                refine (HLD.out _).mono ?_
                rintro e w2 ⟨rfl, rfl⟩
                go_wp2_with (at_builtin; refine wpList_append_own _ rfl (.tmp 73) (.tmp 75) 55 rfl wo.heap.size 3 i0 (.int .i64 0) 1 8 Tryz.underlying55 hi0 hz0 hz1 hz2 rfl (by decide) (.slice ao m co) m ((colB g q x).map colV) rfl (HO.out.alloc _) ⟨wr.heap.size, 0, none⟩ 1 1 [.int .i64 (q : Int)] rfl rfl (cell_one_new _ _ _) (fun x hx => by simp at hx; subst hx; rfl) (by unfold maxLen; omega) (by omega) (by simp; omega) ?_; intro v2 w4 hown1 hgrow1 _; have hb3 := Lib.hid ((HB2.out.alloc hsz2 _).grown hgrow1 (by simp; omega) (fun k hk => (HO.out.lt k hk).1)); have ho2 := Lib.hid hown1; clear hown1 hgrow1)
                go_roundw
                case rel => exact ⟨q + 1, m + 1, by omega, by go_num, by rw [HS.out, List.length_append, HMQ.out]; rfl, by rw [HS.out, List.map_append]; exact ho2.out, hb3.out⟩
                case measure => simp [intOf]; omega
              | false =>
                have HS := Lib.hid (HT2.out hl)
                have HLD : Hid (∀ W, Calls Tryz.prog 112 #[.int .u64 (X : Int), .int .i64 (x : Int)] W fun e w' => e = .returned (.bool false) ∧ W = w') := Lib.hid fun W => by
                  have := Bit_any (w := W) X x (by omega)
                  rw [hl] at this
                  exact this
                clear hl HT1 HT2
                go_wp2_with fail
                refine (HLD.out _).mono ?_
                rintro e w2 ⟨rfl, rfl⟩
                go_wp2
                go_roundw
                case rel => exact ⟨q + 1, m, by omega, by go_num, by rw [HS.out]; exact HMQ.out, by rw [HS.out]; exact HO.out, HB2.out⟩
                case measure => simp [intOf]; omega
            · obtain rfl : q = M := by omega
              have HMX : Hid ((q : Int) + (x : Int) = ((q + x : Nat) : Int)) := Lib.hid (by omega)
              have HROW : Hid (rowH k r g x = colB g q x ++ [q + x]) := Lib.hid (by unfold rowH; rw [HMM.out])
              have HLX : Hid (((List.range r).map (rowL k r) ++ (List.range x).map (rowH k r g)) ++ [rowH k r g x] = (List.range r).map (rowL k r) ++ (List.range (x + 1)).map (rowH k r g)) := Lib.hid (by rw [range_map_succ, List.append_assoc])
              have HE3 : Hid (∀ (v3 : Value) (w3 : World), w3.ownsRow wo.heap.size 3 1 v3 (m + 1) ((colB g q x).map colV ++ [.int .i64 ((q : Int) + (x : Int))]) → ElAt colV 3 w1.heap.size w3 v3 (rowH k r g x)) := Lib.hid fun v3 w3 ho => by
                rw [HROW.out]
                rw [HMX.out] at ho
                have e1 : (colB g q x).map colV ++ [.int .i64 ((q + x : Nat) : Int)] = (colB g q x ++ [q + x]).map colV := by rw [List.map_append]; rfl
                rw [e1] at ho
                exact ElAt.own ho
              clear hb12
              go_wp2_with (first
                | (at_builtin; refine wpList_append_own _ rfl (.tmp 78) (.tmp 86) 55 rfl wo.heap.size 3 i0 (.int .i64 0) 1 8 Tryz.underlying55 hi0 hz0 hz1 hz2 rfl (by decide) (.slice ao m co) m ((colB g q x).map colV) rfl (HO.out.alloc _) ⟨wr.heap.size, 0, none⟩ 1 1 [.int .i64 ((q : Int) + (x : Int))] rfl rfl (cell_one_new _ _ _) (fun x hx => by simp at hx; subst hx; rfl) (by unfold maxLen; omega) (by omega) (by simp; omega) ?_; intro v3 w3 hown1 hgrow1 _; have HB3 := Lib.hid ((HB2.out.alloc hsz2 _).grown hgrow1 (by simp; omega) (fun k hk => (HO.out.lt k hk).1)); have HEN := Lib.hid (HE3.out v3 w3 hown1); have HXB : Hid (∀ b, v3.ownBlock = some b → w1.heap.size ≤ b) := Lib.hid (fun b hb => Nat.le_trans hsz (hown1.lt b hb).1); obtain ⟨g3, q3, rfl⟩ := ownsRow_succ hown1; obtain ⟨vs, hown3, hel3, hfr3⟩ := HMO.out.mono HB3.out; have HFR := Lib.hid hfr3; rw [HLEN.out] at hown3; have HO3 := Lib.hid hown3; have HEL := Lib.hid hel3; have HB13 := Lib.hid (HB.out.trans (HB3.out.mono hsz)); have hsz3 := HB13.out.size; clear hown1 hgrow1 hown3 hel3 hfr3)
                | (at_builtin; refine wpList_append_own _ rfl (.tmp 77) (.tmp 88) 91 rfl w1.heap.size 55 j0 (.slice none 0 0) 1 24 Tryz.underlying91 hj0 jz0 jz1 jz2 rfl (by decide) u4 (r + x) vs rfl (HO3.out.alloc _) ⟨w3.heap.size, 0, none⟩ 1 1 [.slice (some ⟨g3, 0, none⟩) (m + 1) q3] rfl rfl (cell_one_new _ _ _) (fun x hx => by simp at hx; subst hx; rfl) (by unfold maxLen; omega) (by omega) (by simp; omega) ?_; intro v4 w4 hown1 hgrow1 _; have hb4 := Lib.hid ((HB13.out.alloc hsz3 _).grown hgrow1 (by simp; omega) (fun k hk => (HO3.out.lt k hk).1)); have ho4 : Hid (MatFresh colV 3 w1.heap.size 55 w4 v4 (((List.range r).map (rowL k r) ++ (List.range x).map (rowH k r g)) ++ [rowH k r g x])) := Lib.hid (MatFresh.app HFR.out HXB.out (by decide) (by rw [HLEN.out]; exact HO3.out) HEL.out HEN.out (by rw [HLEN.out]; exact hown1) hgrow1); clear hown1 hgrow1))
              go_roundw
              case rel => exact ⟨x + 1, by omega, by go_num, by rw [← HLX.out]; exact ho4.out, hb4.out⟩
              case measure => simp [intOf]; omega
        · obtain rfl : x = h := by omega
          have HAT : Hid (MatFresh colV 3 w.heap.size 55 wr u4 (rowsP k r x g)) := Lib.hid (HMO.out.below HB1.out.size)
          go_wp2
          go_ret
          exact ⟨_, g, rfl, by rw [HMM.out]; exact HGR.out, HAT.out, HB1.out.trans (HB.out.mono HB1.out.size)⟩
theorem rRows_any {w : World} (k s h l p : Nat) (H : OfP k s h l p) (hk1 : 1 ≤ k) (hk2 : k ≤ 128) :
    Calls Tryz.prog 75 #[parV k s h l p] w fun e w' => ∃ v g, e = .returned v ∧ IsGr ((h + 1) / 2) (k + s) g ∧ MatAt colV w' v (rowsP k s h g) ∧ Below w.heap.size w w' := by
  refine (rRows_new k s h l p H hk1 hk2).mono ?_
  rintro e w' ⟨v, g, rfl, h1, h2, h3⟩
  exact ⟨v, g, rfl, h1, h2.own.at, h3⟩
end Go.Proofs.YtkhdjjcflbdegaaGreatDoor
end
