import Derived.Test.YtkhdjjcflbdegaaGreatDoorG19
import Derived.Test.YtkhdjjcflbdegaaGreatDoorG21
import Derived.Test.YtkhdjjcflbdegaaGreatDoorG53
import Derived.Test.YtkhdjjcflbdegaaGreatDoorG08

section
/- The document's table: Of, Share, Upto; the program's All. -/
namespace Go.Proofs.YtkhdjjcflbdegaaGreatDoor
open Go.RowKit Go.Extern.Stop Go.Stop Go.Extern

set_option maxRecDepth 1000000 in
set_option maxHeartbeats 1000000 in
theorem refOf_any {w : World} (v : Int) : Calls Tryz.prog 116 #[.int .i64 v] w fun e w' => e = .returned (.int .i64 (dgOf v)) ∧ w = w' := by
  obtain ⟨D, hD⟩ : ∃ D, dgOf v = D := ⟨_, rfl⟩
  have HD := Lib.hid hD
  rw [hD]
  unfold dgOf at hD
  go_enter Tryz.func116, Tryz.ntmps116
  split at hD
  · go_wp2
    go_ret
    exact ⟨by rw [← hD]; rfl, rfl⟩
  split at hD
  · go_wp2
    go_ret
    exact ⟨by rw [← hD]; rfl, rfl⟩
  split at hD
  · go_wp2
    go_ret
    exact ⟨by rw [← hD]; rfl, rfl⟩
  split at hD
  · go_wp2
    go_ret
    exact ⟨by rw [← hD]; rfl, rfl⟩
  split at hD
  · go_wp2
    go_ret
    exact ⟨by rw [← hD]; rfl, rfl⟩
  split at hD
  · go_wp2
    go_ret
    exact ⟨by rw [← hD]; rfl, rfl⟩
  · go_wp2
    go_ret
    exact ⟨by rw [← hD]; rfl, rfl⟩

/-- The shares of the degrees 1 to n, together. -/
def dgSum : Nat → Int
  | 0 => 0
  | n + 1 => dgSum n + dgShare ((n + 1 : Nat) : Int)
theorem dgSum_end : ∀ n, n ≤ 40 → dgSum n = dgUpto (n : Int) := by decide
theorem dgUpto_over (d : Int) (h : 40 ≤ d) : dgUpto d = 1048576 := by
  show (if ((40 : Int)) ≤ d then (1048576 : Int) else _) = _
  rw [if_pos h]
theorem dgUpto_under (d : Int) (h : d ≤ 0) : dgUpto d = 0 := by
  unfold dgUpto
  have hne : ∀ k, k < 7 → ¬ (dgTab.getD k (0, 0)).2 ≤ d := fun k hk h2 => by
    have : ∀ k, k < 7 → 0 < (dgTab.getD k (0, 0)).2 := by decide
    have := this k hk
    omega
  unfold dgUp; rw [if_neg (hne 6 (by omega))]
  unfold dgUp; rw [if_neg (hne 5 (by omega))]
  unfold dgUp; rw [if_neg (hne 4 (by omega))]
  unfold dgUp; rw [if_neg (hne 3 (by omega))]
  unfold dgUp; rw [if_neg (hne 2 (by omega))]
  unfold dgUp; rw [if_neg (hne 1 (by omega))]
  unfold dgUp; rw [if_neg (hne 0 (by omega))]
  rfl
theorem dgShare_le (d : Int) : 0 ≤ dgShare d ∧ dgShare d ≤ 481341 := by unfold dgShare; repeat' split
                                                                        all_goals omega
theorem dgSum_le : ∀ n, n < 42 → 0 ≤ dgSum n ∧ dgSum n ≤ 1048576 := by decide

/-- The degrees, rising. -/
def dgAll : List Int := [1, 2, 3, 4, 10, 11, 40]
theorem dgAll_get : ∀ (k : Nat) (hk : k < 7), (dgTab[k]'hk).2 = dgAll.getD k 0 := by decide

end Go.Proofs.YtkhdjjcflbdegaaGreatDoor
end

section
/- Package geyserref10: on, Walk. -/
namespace Go.Proofs.YtkhdjjcflbdegaaGreatDoor
open Go.RowKit Go.Extern.Stop Go.Stop Go.Extern

set_option maxRecDepth 1000000 in
set_option maxHeartbeats 4000000 in
theorem rOn_any {w : World} (k s h l p st a j ie : Nat) (hp : 2 ≤ p) (hp2 : p ≤ 1000) (hst : st < p) (hji : j ≤ ie) (hie : ie < p) (hi3 : seqA p st a ie < l) (hi4 : ∀ m, j ≤ m → m < ie → ¬ seqA p st a m < l) :
    Calls Tryz.prog 114 #[parV k s h l p, .int .i64 (seqA p st a j : Int), .int .i64 (st : Int)] w fun e w' => e = .returned (.int .i64 (seqA p st a ie : Int)) ∧ Below w.heap.size w w' := by
  obtain ⟨w0, hw0, hb0, hbx⟩ := par_laid w k s h l p
  have HW0 := Lib.hid hw0
  have HB0 := Lib.hid hb0
  have HBX := Lib.hid hbx
  have HI3 := Lib.hid hi3
  have HI4 := Lib.hid hi4
  have hpz : ((p : Int) == 0) = false := by simp; omega
  clear hw0 hb0 hbx hi3 hi4
  unfold parV parC
  go_enter Tryz.func114, Tryz.ntmps114
  go_upto_region 1 with fail
  rw [← HW0.out]
  go_wp2_with fail
  go_loopw [1, 7] (fun nx i wr => ∃ jj : Nat, nx = .int .i64 (seqA p st a jj : Int) ∧ i = .int .i64 ((jj - j : Nat) : Int) ∧ j ≤ jj ∧ jj ≤ ie ∧ ParBox wr w.heap.size k s h l p ∧ Below w.heap.size w wr) (fun _ i _ => p - (intOf i).toNat)
  case atStart => exact ⟨j, rfl, by rw [Nat.sub_self]; rfl, Nat.le_refl _, hji, HBX.out, HB0.out⟩
  case round =>
    obtain ⟨jj, rfl, rfl, h1, h2, hx, hb⟩ := hrel
    have HX := Lib.hid hx
    have HB := Lib.hid hb
    obtain ⟨c0, c1, c2, c3, c4⟩ := hx.cells
    clear hx hb
    obtain ⟨i, hi⟩ : ∃ i, jj - j = i := ⟨_, rfl⟩
    have HSU := Lib.hid (seqA_succ p st a jj)
    obtain ⟨x, hxx⟩ : ∃ x, seqA p st a jj = x := ⟨_, rfl⟩
    obtain ⟨y, hyy⟩ : ∃ y, seqA p st a (jj + 1) = y := ⟨_, rfl⟩
    have hxp : x < p := hxx ▸ seqA_lt (by omega)
    have hmod : ((x : Int) + (st : Int)) % (p : Int) = (y : Int) := by have := HSU.out; rw [hxx, hyy] at this; rw [this]; push_cast; rfl
    have hii : i < p := by omega
    have HI := Lib.hid hi
    have HXX := Lib.hid hxx
    have HYY := Lib.hid hyy
    rw [hi, hxx]
    clear hi hxx hyy
    by_cases he : jj = ie
    · have hlt : x < l := by have := HI3.out; rw [← he, HXX.out] at this; exact this
      have he2 : seqA p st a ie = x := by rw [← he]; exact HXX.out
      have d1 : decide ((l : Int) ≤ (x : Int)) = false := decide_eq_false (by omega)
      have d2 : decide (l ≤ x) = false := decide_eq_false (by omega)
      clear he
      go_wp2
      go_ret
      exact ⟨by rw [he2]; rfl, HB.out⟩
    · have hge : l ≤ x := by have := HI4.out jj h1 (by omega); rw [HXX.out] at this; omega
      have d1 : decide ((l : Int) ≤ (x : Int)) = true := decide_eq_true (by omega)
      have d2 : decide (l ≤ x) = true := decide_eq_true (by omega)
      go_wp2
      go_roundw
      case rel => exact ⟨jj + 1, by rw [HYY.out, hmod], by rw [show jj + 1 - j = i + 1 by have := HI.out; omega]; go_num, by omega, by omega, HX.out, HB.out⟩
      case measure => simp [intOf]; omega

theorem grown_heapT {w w' : World} {B n g : Nat} {e t : TypeId} {v : Value} {xs : List Value} {cur : Array Value} {z : Nat × Nat} (hgg : w.heap[g]? = some (Obj.cells cur t z)) (ho : w.ownsRow B e 1 v n xs) (hg : w.grownBy w' v.ownBlock) (hne : t ≠ e) : w'.heap[g]? = some (Obj.cells cur t z) := by
  rw [← hgg]
  exact hg.block g (Array.getElem?_eq_some_iff.1 hgg).1 fun eq => by
    rcases ho.2 with ⟨rfl, _⟩ | ⟨g', cap, cur', rfl, _, hg', _⟩
    · simp [Value.ownBlock] at eq
    · have : g = g' := by simpa [Value.ownBlock] using eq
      subst this
      rw [hgg] at hg'
      exact hne (by injection hg' with h; injection h)
/-- The next place that is below l. -/
theorem trW_next {l p st a j i : Nat} (h1 : j ≤ i) (h2 : seqA p st a i < l) (h3 : ∀ m, j ≤ m → m < i → ¬ seqA p st a m < l) : trW l p st a (i + 1) = trW l p st a j ++ [seqA p st a i] := by
  have : ∀ m, j ≤ m → m ≤ i → trW l p st a m = trW l p st a j := by
    intro m
    induction m with
    | zero => intro hj _; rw [show j = 0 by omega]
    | succ m ih =>
      intro hj hm
      by_cases he : j = m + 1
      · rw [he]
      · rw [trW_out (h3 m (by omega) (by omega)), ih (by omega) (by omega)]
  rw [trW_in h2, this i h1 (Nat.le_refl _)]

set_option maxRecDepth 1000000 in
set_option maxHeartbeats 4000000 in
theorem rWalk_any {w : World} (k s h l p d st a : Nat) (hp : IsP p) (hlp : l ≤ p) (hp2 : p ≤ 1000) (hs1 : 1 ≤ st) (hs2 : st < p) (ha : a < p) (hd1 : 1 ≤ d) (hd : d ≤ l) :
    Calls Tryz.prog 79 #[parV k s h l p, tripV d st a] w fun e w' => ∃ v W, e = .returned v ∧ IsTr l p st a d W ∧ ListAt intV w' v (W.map Int.ofNat) ∧ Below w.heap.size w w' := by
  obtain ⟨i0, hi, hz0, hz1, hz2⟩ := info_parts info_int
  obtain ⟨w0, hw0, hb0, hbx⟩ := par_laid w k s h l p
  obtain ⟨w1, hw1, hb1, hbt⟩ := trip_laid w0 d st a
  have hs0 : w0.heap.size = w.heap.size + 1 := by rw [hw0]; simp
  have HW0 := Lib.hid hw0
  have HW1 := Lib.hid hw1
  have HB1 := Lib.hid (hb0.trans (hb1.mono hb0.size))
  rw [hs0] at hbt
  have HBX := Lib.hid (hbx.mono hb1)
  have HBT := Lib.hid hbt
  obtain ⟨c0, c1, c2, c3, c4⟩ := HBX.out.cells
  obtain ⟨t0, t1, t2⟩ := HBT.out.cells
  have hp1 : 2 ≤ p := hp.1
  have hpz : ((p : Int) == 0) = false := by simp; omega
  obtain ⟨i1, hi1, hi2, hi3, hi4⟩ := trW_more (l := l) (a := a) (j := 0) hp hs1 hs2 hlp (by show 0 < l; omega)
  have HP := Lib.hid hp
  have HON : Hid (∀ V, Calls Tryz.prog 114 #[.agg #[.int .i64 (k : Int), .int .i64 (s : Int), .int .i64 (h : Int), .int .i64 (l : Int), .int .i64 (p : Int)], .int .i64 (a : Int), .int .i64 (st : Int)] V fun e w' => e = .returned (.int .i64 (seqA p st a i1 : Int)) ∧ Below V.heap.size V w') := Lib.hid fun V => by
    have := rOn_any (w := V) k s h l p st a 0 i1 hp1 hp2 hs2 (by omega) hi2 hi3 hi4
    rwa [seqA_zero ha] at this
  have HTR : Hid (trW l p st a (i1 + 1) = [seqA p st a i1]) := Lib.hid (by rw [trW_next hi1 hi3 hi4]; rfl)
  clear hw0 hw1 hb0 hb1 hbx hbt hs0 hp hi3 hi4
  unfold parV parC tripV tripC
  go_enter Tryz.func79, Tryz.ntmps79
  go_upto_region 1 with fail
  rw [← HW0.out, ← HW1.out]
  go_wp2_with fail
  refine (HON.out _).mono ?_
  rintro e w2 ⟨rfl, hb2⟩
  have HB2 := Lib.hid (HB1.out.trans (hb2.mono HB1.out.size))
  have HBX2 := Lib.hid (HBX.out.mono hb2)
  have HBT2 := Lib.hid (HBT.out.mono hb2)
  clear hb2 c0 c1 c2 c3 c4 t0 t1 t2
  obtain ⟨c0, c1, c2, c3, c4⟩ := HBX2.out.cells
  obtain ⟨t0, t1, t2⟩ := HBT2.out.cells
  have ho2 : (w2.alloc (.cells #[.int .i64 (seqA p st a i1 : Int)] 3)).ownsRow w.heap.size 3 1 (.slice (some ⟨w2.heap.size, 0, none⟩) 1 1) 1 ([((seqA p st a i1 : Nat) : Int)].map intV) :=
    own_of_heap (base := w.heap.size) (e := 3) HB2.out.size rfl (by decide) (heap_alloc_new w2 (.cells #[.int .i64 (seqA p st a i1 : Int)] 3))
  have hb2a : Below w2.heap.size w2 (w2.alloc (.cells #[.int .i64 (seqA p st a i1 : Int)] 3)) := (Below.refl _ _).alloc (Nat.le_refl _) _
  have HO2 := Lib.hid ho2
  have HB2A := Lib.hid hb2a
  clear ho2 hb2a
  go_wp2_with fail
  go_loopg [5, 6, 7] (d - 1) (fun gk nx out i wr => ∃ k' ie : Nat, k' + gk = d ∧ 1 ≤ k' ∧ i = .int .i64 (k' : Int) ∧ nx = .int .i64 (seqA p st a ie : Int) ∧ ie < p ∧ (trW l p st a (ie + 1)).length = k' ∧ wr.ownsRow w.heap.size 3 1 out k' (((trW l p st a (ie + 1)).map Int.ofNat).map intV) ∧ ParBox wr w.heap.size k s h l p ∧ TripBox wr (w.heap.size + 1) d st a ∧ Below w.heap.size w wr)
  case atStart => exact ⟨1, i1, by omega, by omega, rfl, rfl, hi2, by rw [HTR.out]; rfl, by rw [HTR.out]; exact HO2.out, HBX2.out.mono HB2A.out, HBT2.out.mono HB2A.out, HB2.out.trans (HB2A.out.mono HB2.out.size)⟩
  case round =>
    clear c0 c1 c2 c3 c4 t0 t1 t2 HBX2 HBT2 HB2 HBX HBT HB1 HO2 HB2A HW0 HW1 HTR HON
    obtain ⟨k', ie, hkd, hk1, rfl, rfl, hie, hlen, hown, hx, ht, hbel⟩ := hrel
    have HX := Lib.hid hx
    have HTB := Lib.hid ht
    have HB := Lib.hid hbel
    have HO := Lib.hid hown
    have HLEN := Lib.hid hlen
    have HIE := Lib.hid hie
    obtain ⟨c0, c1, c2, c3, c4⟩ := hx.cells
    obtain ⟨t0, t1, t2⟩ := ht.cells
    cases gk with
    | zero =>
      obtain rfl : k' = d := by omega
      clear hkd hlen hown hx ht hbel
      go_wp2
      go_ret
      exact ⟨_, _, rfl, ⟨HLEN.out, ie + 1, HIE.out, rfl⟩, ListAt.of_owns (f := intV) HO.out, HB.out⟩
    | succ go =>
      obtain ⟨i2, h1, h2, h3, h4⟩ := trW_more (a := a) (j := ie + 1) HP.out hs1 hs2 hlp (by omega)
      have HNX := Lib.hid (trW_next h1 h3 h4)
      obtain ⟨z, hz⟩ : ∃ z, seqA p st a i2 = z := ⟨_, rfl⟩
      obtain ⟨x, hxx⟩ : ∃ x, seqA p st a ie = x := ⟨_, rfl⟩
      have hxp : x < p := hxx ▸ seqA_lt (by omega)
      have hzp : z < p := hz ▸ seqA_lt (by omega)
      obtain ⟨y, hyy⟩ : ∃ y, seqA p st a (ie + 1) = y := ⟨_, rfl⟩
      have hsu := seqA_succ p st a ie
      have HON : Hid (∀ V, Calls Tryz.prog 114 #[.agg #[.int .i64 (k : Int), .int .i64 (s : Int), .int .i64 (h : Int), .int .i64 (l : Int), .int .i64 (p : Int)], .int .i64 (y : Int), .int .i64 (st : Int)] V fun e w' => e = .returned (.int .i64 (z : Int)) ∧ Below V.heap.size V w') := Lib.hid fun V => by
        have := rOn_any (w := V) k s h l p st a (ie + 1) i2 hp1 hp2 hs2 h1 h2 h3 h4
        rwa [hyy, hz] at this
      rw [hxx, hyy] at hsu
      have hmod : ((x : Int) + (st : Int)) % (p : Int) = (y : Int) := by rw [hsu]; push_cast; rfl
      have hkd1 : k' < d := by omega
      have hpn : ¬ p = 0 := by omega
      have hsw : IntKind.i64.wrap ((x : Int) + (st : Int)) = (x : Int) + (st : Int) := IntWalk.i64_in _ (by omega)
      have htm : ((x : Int) + (st : Int)).tmod (p : Int) = (y : Int) := by rw [Int.tmod_eq_emod_of_nonneg (by omega)]; exact hmod
      have HGO : Hid (k' + 1 + go = d) := Lib.hid (by omega)
      have HZ := Lib.hid hz
      have HI2 := Lib.hid h2
      have HSAT : Hid (∀ V, Below wr.heap.size wr V → (V.cell? ⟨w.heap.size, 0, none⟩ = some (.int .i64 (k : Int)) ∧ V.cell? ⟨w.heap.size, 1, none⟩ = some (.int .i64 (s : Int)) ∧ V.cell? ⟨w.heap.size, 2, none⟩ = some (.int .i64 (h : Int)) ∧ V.cell? ⟨w.heap.size, 3, none⟩ = some (.int .i64 (l : Int)) ∧ V.cell? ⟨w.heap.size, 4, none⟩ = some (.int .i64 (p : Int))) ∧ V.cell? ⟨w.heap.size + 1, 1, none⟩ = some (.int .i64 (st : Int))) := Lib.hid fun V hV => ⟨(HX.out.mono hV).cells, (HTB.out.mono hV).cells.2.1⟩
      have HBD : Hid (Below wr.heap.size wr wr.drew) := Lib.hid (Below.refl _ _).drew
      rw [hxx]
      clear hkd hlen hown hx ht hbel h1 h2 h3 h4 hz hxx hyy hsu hie
      go_upto_region 6 with fail
      go_region_held3 (fun w' => (w'.cell? ⟨w.heap.size, 0, none⟩ = some (.int .i64 (k : Int)) ∧ w'.cell? ⟨w.heap.size, 1, none⟩ = some (.int .i64 (s : Int)) ∧ w'.cell? ⟨w.heap.size, 2, none⟩ = some (.int .i64 (h : Int)) ∧ w'.cell? ⟨w.heap.size, 3, none⟩ = some (.int .i64 (l : Int)) ∧ w'.cell? ⟨w.heap.size, 4, none⟩ = some (.int .i64 (p : Int))) ∧ w'.cell? ⟨w.heap.size + 1, 1, none⟩ = some (.int .i64 (st : Int)))
        (first | exact HSAT.out _ HBD.out | exact HSAT.out _ HB3.out | go_keep)
        (first
        | (go_at_call 114; (with_reducible refine (HON.out _).mono ?_); rintro e w3 ⟨rfl, hb3⟩; have HB3 := Lib.hid (HBD.out.trans (hb3.mono HBD.out.size)); clear hb3))
      all_goals
        have HO3 := Lib.hid ((owns_kept HO.out HB3.out).alloc (.cells #[.int .i64 (z : Int)] 3))
        have HX3 := Lib.hid (HX.out.mono HB3.out)
        have HTB3 := Lib.hid (HTB.out.mono HB3.out)
        have HBB := Lib.hid (HB.out.trans (HB3.out.mono HB.out.size))
        have HS3 := Lib.hid HBB.out.size
        have HG3 := Lib.hid (Nat.lt_of_lt_of_le HTB3.out.lt (Nat.le_refl _))
        clear c0 c1 c2 c3 c4 t0 t1 t2
        go_wp2_with (at_builtin; refine wpList_append_own _ rfl (.tmp 33) (.tmp 35) 55 rfl w.heap.size 3 i0 (.int .i64 0) 1 8 Tryz.underlying55 hi hz0 hz1 hz2 rfl (by decide) _ k' (((trW l p st a (ie + 1)).map Int.ofNat).map intV) rfl HO3.out ⟨w3.heap.size, 0, none⟩ 1 1 [.int .i64 (z : Int)] rfl rfl (cell_one_new _ _ _) (fun x hx => by simp at hx; subst hx; rfl) (by unfold maxLen; omega) (by omega) (by have := HS3.out; simp; omega) ?_; intro v4 w4 hown1 hgrow1 _; have hb4 := Lib.hid ((Below.refl w3.heap.size w3).alloc (Nat.le_refl _) (.cells #[.int .i64 (z : Int)] 3)); have hgr4 : Hid ((w3.alloc (.cells #[.int .i64 (z : Int)] 3)).grownBy w4 u6.ownBlock) := Lib.hid hgrow1; have ho4 := Lib.hid hown1; clear hown1 hgrow1)
        go_roundg go
        case measure => omega
        have hx4 := HX3.out.mono hb4.out
        have ht4 := HTB3.out.mono hb4.out
        exact ⟨k' + 1, i2, HGO.out, by omega, by go_num, by rw [HZ.out], HI2.out, by rw [HNX.out, List.length_append, HLEN.out]; rfl, by rw [HNX.out, HZ.out, List.map_append, List.map_append]; exact ho4.out, grown_heapT hx4 HO3.out hgr4.out (by decide), grown_heapT ht4 HO3.out hgr4.out (by decide), (HBB.out.trans (hb4.out.mono HBB.out.size)).grown hgr4.out (by have := HS3.out; simp; omega) (fun k hk => (HO3.out.lt k hk).1)⟩

set_option maxRecDepth 1000000 in
set_option maxHeartbeats 4000000 in
theorem rTrip_any {w : World} (k s h l p seed esi : Nat) (hp1 : 2 ≤ p) (hp2 : p ≤ 1000) (hs : seed < 65536) (he : esi < 65536) :
    Calls Tryz.prog 80 #[parV k s h l p, .int .i64 (seed : Int), .int .i64 (esi : Int)] w fun e w' => e = .returned (tripV (trD l (mixN esi seed) : Nat) (trS p (mixN esi seed) : Nat) (trA p (mixN esi seed) : Nat)) ∧ Below w.heap.size w w' := by
  obtain ⟨w0, hw0, hb0, hbx⟩ := par_laid w k s h l p
  obtain ⟨w1, hw1, hb1, hbt⟩ := trip_laid w0 0 0 0
  have hs0 : w0.heap.size = w.heap.size + 1 := by rw [hw0]; simp
  have HW0 := Lib.hid hw0
  have HW1 := Lib.hid hw1
  have HB1 := Lib.hid (hb0.trans (hb1.mono hb0.size))
  rw [hs0] at hbt
  have HBX := Lib.hid (hbx.mono hb1)
  have HBT := Lib.hid hbt
  obtain ⟨c0, c1, c2, c3, c4⟩ := HBX.out.cells
  obtain ⟨t0, t1, t2⟩ := HBT.out.cells
  obtain ⟨y0, y1, y2⟩ := HBT.out.free
  have hylt : mixN esi seed < 4294967296 := mixN_lt _ _
  obtain ⟨y, hy⟩ : ∃ y, mixN esi seed = y := ⟨_, rfl⟩
  rw [hy] at hylt ⊢
  obtain ⟨m0, hm0⟩ : ∃ m, mixN y 0 % 1048576 = m := ⟨_, rfl⟩
  obtain ⟨m1, hm1⟩ : ∃ m, mixN y 1 % (p - 1) = m := ⟨_, rfl⟩
  obtain ⟨m2, hm2⟩ : ∃ m, mixN y 2 % p = m := ⟨_, rfl⟩
  have hb1' : m1 < 1000 := by rw [← hm1]; exact Nat.lt_of_lt_of_le (Nat.mod_lt _ (by omega)) (by omega)
  have hb2' : m2 < 1000 := by rw [← hm2]; exact Nat.lt_of_lt_of_le (Nat.mod_lt _ (by omega)) (by omega)
  obtain ⟨d0, d1⟩ := dgOf_bd (m0 : Int)
  obtain ⟨D, hD⟩ : ∃ D : Nat, dgOf (m0 : Int) = D := ⟨(dgOf (m0 : Int)).toNat, by omega⟩
  have hres : tripV (trD l y : Nat) (trS p y : Nat) (trA p y : Nat) = tripV (min D l : Nat) ((1 + m1 : Nat) : Int) (m2 : Int) := by
    unfold trD trS trA
    rw [hm0, hm1, hm2, hD]
    rfl
  rw [hres]
  have HM : Hid (∀ V, Calls Tryz.prog 115 #[.int .u32 (esi : Int), .int .u32 (seed : Int)] V fun e w' => e = .returned (.int .u32 (y : Int)) ∧ V = w') := Lib.hid fun V => by
    have := refMix_any (w := V) esi seed (by omega) (by omega)
    rwa [hy] at this
  have HM0 : Hid (∀ V, Calls Tryz.prog 117 #[.int .u32 (y : Int), .int .u32 0, .int .i64 1048576] V fun e w' => e = .returned (.int .i64 (m0 : Int)) ∧ V = w') := Lib.hid fun V => by
    have := rBelow_any (w := V) y 0 1048576 hylt (by decide) (by decide) (by decide)
    rwa [hm0] at this
  have HM1 : Hid (∀ V, Calls Tryz.prog 117 #[.int .u32 (y : Int), .int .u32 1, .int .i64 ((p : Int) - 1)] V fun e w' => e = .returned (.int .i64 (m1 : Int)) ∧ V = w') := Lib.hid fun V => by
    have := rBelow_any (w := V) y 1 (p - 1) hylt (by decide) (by omega) (by omega)
    rwa [hm1, show ((p - 1 : Nat) : Int) = (p : Int) - 1 by omega] at this
  have HM2 : Hid (∀ V, Calls Tryz.prog 117 #[.int .u32 (y : Int), .int .u32 2, .int .i64 (p : Int)] V fun e w' => e = .returned (.int .i64 (m2 : Int)) ∧ V = w') := Lib.hid fun V => by
    have := rBelow_any (w := V) y 2 p hylt (by decide) (by omega) (by omega)
    rwa [hm2] at this
  have HDG : Hid (∀ V, Calls Tryz.prog 116 #[.int .i64 (m0 : Int)] V fun e w' => e = .returned (.int .i64 (D : Int)) ∧ V = w') := Lib.hid fun V => by
    have := refOf_any (w := V) (m0 : Int)
    rwa [hD] at this
  have e1 : IntKind.u32.wrap (esi : Int) = (esi : Int) := by rw [wrap_u32_nat, Nat.mod_eq_of_lt (by omega)]
  have e2 : IntKind.u32.wrap (seed : Int) = (seed : Int) := by rw [wrap_u32_nat, Nat.mod_eq_of_lt (by omega)]
  rw [hD] at d0 d1
  have HSAT : Hid (∀ V, Below w1.heap.size w1 V → (V.cell? ⟨w.heap.size, 3, none⟩ = some (.int .i64 (l : Int)) ∧ V.cell? ⟨w.heap.size, 4, none⟩ = some (.int .i64 (p : Int)))) := Lib.hid fun V hV => by
    obtain ⟨c0, c1, c2, c3, c4⟩ := (HBX.out.mono hV).cells
    exact ⟨c3, c4⟩
  have HBD : Hid (Below w1.heap.size w1 w1.drew) := Lib.hid (Below.refl _ _).drew
  have HTD := Lib.hid (HBT.out.mono HBD.out)
  have HSD := Lib.hid (HSAT.out _ HBD.out)
  clear hw0 hw1 hb0 hb1 hbx hbt hs0 hy hm0 hm1 hm2 hD hres hylt
  unfold parV parC
  obtain ⟨q, hq, hcase⟩ : ∃ q, min D l = q ∧ ((D : Int) ≤ (l : Int) ∧ D ≤ l ∧ q = D ∨ ¬ (D : Int) ≤ (l : Int) ∧ ¬ D ≤ l ∧ q = l) := ⟨_, rfl, by omega⟩
  rw [hq]
  clear hq
  go_enter Tryz.func80, Tryz.ntmps80
  go_upto_region 1 with fail
  rw [← HW0.out, ← HW1.out]
  go_wp2_with fail
  refine (HM.out _).mono ?_
  rintro e w2 ⟨rfl, rfl⟩
  go_wp2_with fail
  refine (HM0.out _).mono ?_
  rintro e w2 ⟨rfl, rfl⟩
  go_wp2_with fail
  refine (HDG.out _).mono ?_
  rintro e w2 ⟨rfl, rfl⟩
  go_upto_region 3 with fail
  have hwp : IntKind.i64.wrap ((p : Int) - 1) = (p : Int) - 1 := IntWalk.i64_in _ (by omega)
  have hwm : IntKind.i64.wrap (1 + (m1 : Int)) = 1 + (m1 : Int) := IntWalk.i64_in _ (by omega)
  have HMI : Hid (min (D : Int) (l : Int) = (q : Int)) := Lib.hid (by omega)
  clear hcase
  all_goals
    go_region_held3 (fun w' => w'.cell? ⟨w.heap.size, 3, none⟩ = some (.int .i64 (l : Int)) ∧ w'.cell? ⟨w.heap.size, 4, none⟩ = some (.int .i64 (p : Int)))
      (first | exact HSD.out | go_keep)
      (first
      | (go_at_call 117; (with_reducible refine (HM1.out _).mono ?_); rintro e w3 ⟨rfl, rfl⟩)
      | (go_at_call 117; (with_reducible refine (HM2.out _).mono ?_); rintro e w3 ⟨rfl, rfl⟩))
  all_goals
    rw [HMI.out]
    go_wp2
    refine bodyPost_ret (results_row1 rfl _ _ (w.heap.size + 1) 145 _ (0, 0) _ rfl (HTD.out.done _ _ _) Tryz.underlying145 rfl (by kernel_rfl)) rfl ?_
    exact ⟨rfl, (TripBox.below HB1.out (by omega) _ _ _).drew⟩
end Go.Proofs.YtkhdjjcflbdegaaGreatDoor
end

section
/- Package geyserref10: Row, Check, CheckTrip. -/
namespace Go.Proofs.YtkhdjjcflbdegaaGreatDoor
open Go.RowKit Go.Extern.Stop Go.Stop Go.Extern

/-- A trip that may be, of good numbers. -/
def TripIn (l p : Nat) (d s a : Int) : Prop := 1 ≤ d ∧ d ≤ (l : Int) ∧ 1 ≤ s ∧ s < (p : Int) ∧ 0 ≤ a ∧ a < (p : Int)

set_option maxRecDepth 1000000 in
set_option maxHeartbeats 4000000 in
theorem rRow_own {w : World} (k s h l p seed esi : Nat) (H : OfP k s h l p) (hk1 : 1 ≤ k) (hk2 : k ≤ 128) (hs : seed < 65536) (he : esi < 65536) :
    Calls Tryz.prog 41 #[parV k s h l p, .int .i64 (seed : Int), .int .i64 (esi : Int)] w fun e w' => ∃ v W, e = .returned v ∧ IsTr l p (trS p (mixN esi seed)) (trA p (mixN esi seed)) (trD l (mixN esi seed)) W ∧ w'.ownsRow w.heap.size 3 1 v (risN l W).length (((risN l W).map Int.ofNat).map intV) ∧ Below w.heap.size w w' := by
  obtain ⟨i0, hi, hz0, hz1, hz2⟩ := info_parts info_int
  obtain ⟨b1, b2, b3, b4, b5, b6, b7⟩ := H.bounds hk1 hk2
  have hl1 : 1 ≤ l := by have := H.2.2.1; omega
  have hp2 : 2 ≤ p := H.2.2.2.two
  have hpp : IsP p := H.2.2.2.1
  obtain ⟨w0, hw0, hb0, hbx⟩ := par_laid w k s h l p
  have HW0 := Lib.hid hw0
  have HB0 := Lib.hid hb0
  have HBX := Lib.hid hbx
  obtain ⟨c0, c1, c2, c3, c4⟩ := hbx.cells
  obtain ⟨D, hD⟩ : ∃ D, trD l (mixN esi seed) = D := ⟨_, rfl⟩
  obtain ⟨S, hS⟩ : ∃ S, trS p (mixN esi seed) = S := ⟨_, rfl⟩
  obtain ⟨A, hA⟩ : ∃ A, trA p (mixN esi seed) = A := ⟨_, rfl⟩
  have bD := trD_bd (y := mixN esi seed) hl1
  have bS := trS_bd (y := mixN esi seed) hp2
  have bA := trA_bd (y := mixN esi seed) hp2
  rw [hD] at bD
  rw [hS] at bS
  rw [hA] at bA
  have HTR : Hid (∀ V, Calls Tryz.prog 80 #[.agg #[.int .i64 (k : Int), .int .i64 (s : Int), .int .i64 (h : Int), .int .i64 (l : Int), .int .i64 (p : Int)], .int .i64 (seed : Int), .int .i64 (esi : Int)] V fun e w' => e = .returned (.agg #[.int .i64 (D : Int), .int .i64 (S : Int), .int .i64 (A : Int)]) ∧ Below V.heap.size V w') := Lib.hid fun V => by
    have := rTrip_any (w := V) k s h l p seed esi hp2 (by omega) hs he
    rwa [hD, hS, hA] at this
  have HWK : Hid (∀ V, Calls Tryz.prog 79 #[.agg #[.int .i64 (k : Int), .int .i64 (s : Int), .int .i64 (h : Int), .int .i64 (l : Int), .int .i64 (p : Int)], .agg #[.int .i64 (D : Int), .int .i64 (S : Int), .int .i64 (A : Int)]] V fun e w' => ∃ v W, e = .returned v ∧ IsTr l p S A D W ∧ ListAt intV w' v (W.map Int.ofNat) ∧ Below V.heap.size V w') := Lib.hid fun V => rWalk_any k s h l p D S A hpp b6 (by omega) bS.1 bS.2 bA bD.1 bD.2
  rw [hD, hS, hA]
  have HBL : Hid (l ≤ 1000) := Lib.hid (by omega)
  clear hw0 hb0 hbx H hD hS hA b1 b2 b3 b4 b5 b6 b7 hl1 hp2 hpp bD bS bA
  unfold parV parC
  go_enter Tryz.func41, Tryz.ntmps41
  go_upto_region 1 with fail
  rw [← HW0.out]
  have HSAT : Hid (∀ V, Below w0.heap.size w0 V → V.cell? ⟨w.heap.size, 0, none⟩ = some (.int .i64 (k : Int)) ∧ V.cell? ⟨w.heap.size, 1, none⟩ = some (.int .i64 (s : Int)) ∧ V.cell? ⟨w.heap.size, 2, none⟩ = some (.int .i64 (h : Int)) ∧ V.cell? ⟨w.heap.size, 3, none⟩ = some (.int .i64 (l : Int)) ∧ V.cell? ⟨w.heap.size, 4, none⟩ = some (.int .i64 (p : Int))) := Lib.hid fun V hV => (HBX.out.mono hV).cells
  have HBD : Hid (Below w0.heap.size w0 w0.drew) := Lib.hid (Below.refl _ _).drew
  go_region_held3 (fun w' => w'.cell? ⟨w.heap.size, 0, none⟩ = some (.int .i64 (k : Int)) ∧ w'.cell? ⟨w.heap.size, 1, none⟩ = some (.int .i64 (s : Int)) ∧ w'.cell? ⟨w.heap.size, 2, none⟩ = some (.int .i64 (h : Int)) ∧ w'.cell? ⟨w.heap.size, 3, none⟩ = some (.int .i64 (l : Int)) ∧ w'.cell? ⟨w.heap.size, 4, none⟩ = some (.int .i64 (p : Int)))
    (first | exact HSAT.out _ HB4.out | exact HSAT.out _ HB3.out | exact HSAT.out _ HBD.out | go_keep)
    (first
    | (go_at_call 80; (with_reducible refine (HTR.out _).mono ?_); rintro e w3 ⟨rfl, hb3⟩; have HB3 := Lib.hid (HBD.out.trans (hb3.mono HBD.out.size)); clear hb3)
    | (go_at_call 79; (with_reducible refine (HWK.out _).mono ?_); rintro e w4 ⟨v, W, rfl, hw, hl, hb4⟩; have HB4 := Lib.hid (HB3.out.trans (hb4.mono HB3.out.size)); have HW := Lib.hid hw; have HL := Lib.hid hl; clear hb4 hw hl))
  all_goals
    have HX4 := Lib.hid (HBX.out.mono HB4.out)
    have HBB := Lib.hid (HB0.out.trans (HB4.out.mono HB0.out.size))
    clear c0 c1 c2 c3 c4
    obtain ⟨c0, c1, c2, c3, c4⟩ := HX4.out.cells
    have hba : Below w4.heap.size w4 (w4.alloc (.cells #[] 3)) := (Below.refl _ _).alloc (Nat.le_refl _) _
    have HBA := Lib.hid hba
    clear hba
    have hbl : l ≤ 1000 := HBL.out
    go_wp2_with fail
    go_loopg [8, 9] l (fun gk out i wr => ∃ k' : Nat, k' + gk = l ∧ i = .int .i64 (k' : Int) ∧ wr.ownsRow w4.heap.size 3 1 out (risN k' W).length (((risN k' W).map Int.ofNat).map intV) ∧ Below w4.heap.size w4 wr)
    case atStart => exact ⟨0, by omega, rfl, World.ownsRow_made (base := w4.heap.size) (e := 3) (size := 1) w4 #[] 0 (Nat.le_refl _) (by decide) rfl, HBA.out⟩
    case round =>
      obtain ⟨k', hkl, rfl, hown, hbel⟩ := hrel
      have HO := Lib.hid hown
      have HB := Lib.hid hbel
      have HS := Lib.hid hbel.size
      have HQ : Hid ((risN k' W).length ≤ k') := Lib.hid (by
        unfold risN
        exact Nat.le_trans (List.length_filter_le _ _) (by rw [List.length_range]; exact Nat.le_refl _))
      clear c0 c1 c2 c3 c4
      obtain ⟨c0, c1, c2, c3, c4⟩ := (HX4.out.mono hbel).cells
      cases gk with
      | zero =>
        obtain rfl : k' = l := by omega
        clear hkl hown hbel
        go_wp2
        go_ret
        exact ⟨_, W, rfl, HW.out, ownsRow_base HO.out HBB.out.size, HBB.out.trans (HB.out.mono HBB.out.size)⟩
      | succ go =>
        have hkd1 : k' < l := by omega
        have HGO : Hid (k' + 1 + go = l) := Lib.hid (by omega)
        have HIN : Hid (∀ V, Below w4.heap.size w4 V → Calls Tryz.prog 81 #[v, .int .i64 (k' : Int)] V fun e w' => e = .returned (.bool (decide (k' ∈ W))) ∧ V = w') := Lib.hid fun V hV => by
          have := In_any (w := V) v (W.map Int.ofNat) (k' : Int) (HL.out.mono hV)
          rwa [show decide ((k' : Int) ∈ W.map Int.ofNat) = decide (k' ∈ W) from by rw [decide_eq_decide]; exact mem_mapI] at this
        clear hkl hown hbel
        by_cases hm : k' ∈ W
        · have HI := Lib.hid (risN_in hm)
          have HM : Hid (decide (k' ∈ W) = true) := Lib.hid (decide_eq_true hm)
          obtain ⟨q, hqe⟩ : ∃ q, (risN k' W).length = q := ⟨_, rfl⟩
          have hq : q ≤ k' := hqe ▸ HQ.out
          have HO3 : Hid ((wr.alloc (.cells #[.int .i64 (k' : Int)] 3)).ownsRow w4.heap.size 3 1 u8 q (((risN k' W).map Int.ofNat).map intV)) := Lib.hid (by rw [← hqe]; exact HO.out.alloc (.cells #[.int .i64 (k' : Int)] 3))
          have HQE := Lib.hid hqe
          clear hm hqe
          go_wp2_with fail
          refine (HIN.out _ HB.out).mono ?_
          rintro e w5 ⟨rfl, rfl⟩
          rw [HM.out]
          go_wp2_with (at_builtin; refine wpList_append_own _ rfl (.tmp 26) (.tmp 28) 55 rfl w4.heap.size 3 i0 (.int .i64 0) 1 8 Tryz.underlying55 hi hz0 hz1 hz2 rfl (by decide) _ q (((risN k' W).map Int.ofNat).map intV) rfl HO3.out ⟨wr.heap.size, 0, none⟩ 1 1 [.int .i64 (k' : Int)] rfl rfl (cell_one_new _ _ _) (fun x hx => by simp at hx; subst hx; rfl) (by unfold maxLen; omega) (by omega) (by have := HS.out; simp; omega) ?_; intro v5 w5 hown1 hgrow1 _; have hgr5 : Hid ((wr.alloc (.cells #[.int .i64 (k' : Int)] 3)).grownBy w5 u8.ownBlock) := Lib.hid hgrow1; have ho5 := Lib.hid hown1; clear hown1 hgrow1)
          go_roundg go
          case measure => omega
          have hba : Below wr.heap.size wr (wr.alloc (.cells #[.int .i64 (k' : Int)] 3)) := (Below.refl _ _).alloc (Nat.le_refl _) _
          exact ⟨k' + 1, HGO.out, by go_num, by rw [HI.out, List.length_append, HQE.out, List.map_append, List.map_append]; exact ho5.out, (HB.out.trans (hba.mono HB.out.size)).grown hgr5.out (by have := HS.out; simp; omega) (fun k hk => (HO3.out.lt k hk).1)⟩
        · have HI := Lib.hid (risN_out hm)
          have HM : Hid (decide (k' ∈ W) = false) := Lib.hid (decide_eq_false hm)
          clear hm
          go_wp2_with fail
          refine (HIN.out _ HB.out).mono ?_
          rintro e w5 ⟨rfl, rfl⟩
          rw [HM.out]
          go_wp2
          go_roundg go
          case measure => omega
          exact ⟨k' + 1, HGO.out, by go_num, by rw [HI.out]; exact HO.out, HB.out⟩
theorem rRow_any {w : World} (k s h l p seed esi : Nat) (H : OfP k s h l p) (hk1 : 1 ≤ k) (hk2 : k ≤ 128) (hs : seed < 65536) (he : esi < 65536) :
    Calls Tryz.prog 41 #[parV k s h l p, .int .i64 (seed : Int), .int .i64 (esi : Int)] w fun e w' => ∃ v W, e = .returned v ∧ IsTr l p (trS p (mixN esi seed)) (trA p (mixN esi seed)) (trD l (mixN esi seed)) W ∧ ListAt intV w' v ((risN l W).map Int.ofNat) ∧ Below w.heap.size w w' := by
  refine (rRow_own k s h l p seed esi H hk1 hk2 hs he).mono ?_
  rintro e w' ⟨v, W, rfl, h1, h2, h3⟩
  exact ⟨v, W, rfl, h1, ListAt.of_owns (f := intV) (by rwa [← List.length_map (f := Int.ofNat)] at h2), h3⟩
end Go.Proofs.YtkhdjjcflbdegaaGreatDoor
end
