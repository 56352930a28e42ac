/- Package blocking: Join. -/
import Derived.Test.YteilneoamhnndaaDoorBkFlat
import Derived.Test.YteilneoamhnndaaDoorJ3
namespace Go.Proofs.YteilneoamhnndaaDoor
open Go.RowKit Go.Extern.Stop Go.Stop Go.Extern

/-- Bytes in a block of their own, the first so many of them. -/
def BytesIn (w : World) (g : Nat) (D : List Nat) : Prop := g < w.heap.size ∧ ∀ j, j < D.length → w.cell? ⟨g, j, none⟩ = some (byteV (D.getD j 0))
theorem BytesIn.at {w : World} {g : Nat} {D : List Nat} (h : BytesIn w g D) (hl : D.length ≤ maxLen) : ListAt byteV w (.slice (some ⟨g, 0, none⟩) D.length D.length) D :=
  ⟨_, _, rfl, Nat.le_refl _, hl, fun _ => ⟨g, 0, rfl, fun j hj => by rw [Nat.zero_add, h.2 j hj]; simp [List.getD_eq_getElem?_getD, hj]⟩⟩
theorem BytesIn.same {w w' : World} {g : Nat} {D : List Nat} (h : BytesIn w g D) (hs : w'.heap[g]? = w.heap[g]?) (hz : w.heap.size ≤ w'.heap.size) : BytesIn w' g D :=
  ⟨Nat.lt_of_lt_of_le h.1 hz, fun j hj => by rw [World.cell?_of_block (w := w) (a := ⟨g, j, none⟩) hs]; exact h.2 j hj⟩

set_option maxRecDepth 1000000 in
set_option maxHeartbeats 4000000 in
theorem bkJoin_bad {w : World} (s b n l q : Int) (hs : I64 s) (hb : I64 b) (hn : I64 n) (hl : I64 l) (hq : I64 q) (hk : planC s b n l q ≠ 0) (v : Value) :
    Calls Tryd.prog 19 #[plV s b n l q, v] w fun e w' => ∃ E, e = .returned (.tuple #[nilS, E]) ∧ ErrAns (planC s b n l q) nameBkJoin w' E ∧ Below w.heap.size w w' := by
  have HCK : Hid (∀ V : World, Calls Tryd.prog 13 #[.agg #[.int .i64 s, .int .i64 b, .int .i64 n, .int .i64 l, .int .i64 q]] V fun e w' => ∃ E, e = .returned E ∧ ErrAns (planC s b n l q) nameBkCheck w' E ∧ Below V.heap.size V w') := Lib.hid fun V => bkCheck_any s b n l q hs hb hn hl hq
  obtain ⟨W0, hW0, hb0, hbx⟩ := pl_laid w s b n l q
  have HW0 := Lib.hid hW0
  have HB0 := Lib.hid hb0
  generalize planC s b n l q = k at *
  clear hs hb hn hl hq hW0 hb0 hbx
  unfold plV plC
  go_enter Tryd.func19, Tryd.ntmps19
  go_wp2_with fail
  rw [← HW0.out]
  refine (HCK.out W0).mono ?_
  rintro e w1 ⟨E, rfl, he, hb1⟩
  have HB1 := Lib.hid (HB0.out.trans (hb1.mono HB0.out.size))
  have HCH := Lib.hid he
  obtain ⟨u, x, rfl⟩ := he.some hk
  clear he hb1
  go_wp2_with fail
  refine (Wrap_ans nameBkJoin _ k _ _ hk HCH.out).mono ?_
  rintro e w2 ⟨E2, rfl, hch, hb2⟩
  have HB2 := Lib.hid (HB1.out.trans (hb2.mono HB1.out.size))
  have HC := Lib.hid hch
  obtain ⟨u2, x2, rfl⟩ := hch.some hk
  clear hch hb2
  go_wp2
  go_ret2
  exact ⟨_, rfl, HC.out, HB2.out⟩

def JoinOk (s b n l q : Nat) (C : List (List (List Nat))) : Prop := FitOk b n l q C ∧ zeroB (C.flatten.flatten.drop s) = true

set_option maxRecDepth 1000000 in
set_option maxHeartbeats 4000000 in
theorem bkJoin_any {w : World} {s b n l q : Nat} (h : PlanOk s b n l q) (v : Value) (C : List (List (List Nat))) (hC : CubeAt byteV w v C) :
    Calls Tryd.prog 19 #[plV s b n l q, v] w fun e w' => Below w.heap.size w w' ∧
      ((JoinOk s b n l q C ∧ ∃ g, e = .returned (.tuple #[.slice (some ⟨g, 0, none⟩) s s, .nilIface]) ∧ w.heap.size ≤ g ∧ BytesIn w' g (C.flatten.flatten.take s) ∧ (C.flatten.flatten.take s).length = s) ∨
      (¬ JoinOk s b n l q C ∧ ∃ E, e = .returned (.tuple #[nilS, E]) ∧ ErrAns 2 nameBkJoin w' E)) := by
  have HP := Lib.hid h
  have hsl := h.size_le
  have hTb := symT_mul (s := s) h.b1
  have hTl := h.symT_le
  have HCK : Hid (∀ V : World, Calls Tryd.prog 13 #[.agg #[.int .i64 (s : Int), .int .i64 (b : Int), .int .i64 (n : Int), .int .i64 (l : Int), .int .i64 (q : Int)]] V fun e w' => e = .returned .nilIface ∧ Below V.heap.size V w') := Lib.hid fun V => bkCheck_ok h
  obtain ⟨W0, hW0, hb0, hbx⟩ := pl_laid w (s : Int) (b : Int) (n : Int) (l : Int) (q : Int)
  have HW0 := Lib.hid hW0
  have HB0 := Lib.hid hb0
  have HX := Lib.hid hbx
  have HC := Lib.hid (hC.mono hb0)
  have hn := h.n16
  obtain ⟨av, cv, rfl, -, -, -⟩ := hC.opens
  have hlen := hC.len
  obtain ⟨c0, c1, c2, c3, c4⟩ := hbx.cells
  clear hW0 hb0 hbx hC h
  unfold plV plC
  go_enter Tryd.func19, Tryd.ntmps19
  go_wp2_with fail
  rw [← HW0.out]
  refine (HCK.out W0).mono ?_
  rintro e w1 ⟨rfl, hb1⟩
  have HB1 := Lib.hid (HB0.out.trans (hb1.mono HB0.out.size))
  have HC1 := Lib.hid (HC.out.mono hb1)
  have HX1 := Lib.hid (HX.out.mono hb1)
  clear c0 c1 c2 c3 c4 hb1
  obtain ⟨c0, c1, c2, c3, c4⟩ := HX1.out.cells
  go_wp2_with fail
  refine (bkFit_any HP.out _ C HC1.out).mono ?_
  rintro e w2 ⟨t, rfl, ht, hb2⟩
  have HB2 := Lib.hid (HB1.out.trans (hb2.mono HB1.out.size))
  have HC2 := Lib.hid (HC1.out.mono hb2)
  have HX2 := Lib.hid (HX1.out.mono hb2)
  clear c0 c1 c2 c3 c4 hb2
  obtain ⟨c0, c1, c2, c3, c4⟩ := HX2.out.cells
  cases t with
  | false =>
    have HF : Hid (¬ FitOk b n l q C) := Lib.hid fun h => by have := ht.2 h; cases this
    clear ht
    go_wp2_with fail
    refine (New_ans nameBkJoin 2 (by decide) _).mono ?_
    rintro e w3 ⟨E, rfl, hc, hb3⟩
    have HCE := Lib.hid hc
    have HB3 := Lib.hid (HB2.out.trans (hb3.mono HB2.out.size))
    clear hc hb3
    go_wp2
    go_ret2
    exact ⟨HB3.out, .inr ⟨fun h => HF.out h.1, _, rfl, HCE.out⟩⟩
  | true =>
    have hF : FitOk b n l q C := ht.1 rfl
    have HF := Lib.hid hF
    obtain ⟨X, hX1, hX2, hX3, hX4, hX5⟩ := HC2.out.vals
    have hfl := hF.syms HP.out
    have hby := hF.bytes HP.out
    have hcl : C.length ≤ 16 := by rw [hF.1]; exact hn
    have HCR : Hid (Calls Tryd.prog 34 #[.slice av C.length cv] w2 fun e w' => ∃ v', e = .returned v' ∧ MatAt byteV w' v' C.flatten ∧ Below w2.heap.size w2 w') := Lib.hid (by
      refine (ConcatR_any _ X hX1 hX3 (by omega) (by omega)).mono ?_
      rintro e w' ⟨v', rfl, ho, hb⟩
      exact ⟨v', rfl, ⟨X.flatten, ListAt.of_owns (f := id) (by rw [List.map_id]; exact ho), hX4, fun i => (hX5 i).mono hb⟩, hb⟩)
    have HFL : Hid (C.flatten.length = symT s b ∧ C.flatten.flatten.length = symT s b * b) := Lib.hid ⟨hfl, hby⟩
    clear ht hF hX1 hX2 hX3 hX4 hX5 hfl hby
    go_wp2_with fail
    refine HCR.out.mono ?_
    rintro e w3 ⟨v3, rfl, hm3, hb3⟩
    have HB3 := Lib.hid (HB2.out.trans (hb3.mono HB2.out.size))
    have HX3 := Lib.hid (HX2.out.mono hb3)
    have HCB : Hid (Calls Tryd.prog 33 #[v3] w3 fun e w' => ∃ v', e = .returned v' ∧ w'.ownsRow w3.heap.size 5 1 v' (symT s b * b) (C.flatten.flatten.map byteV) ∧ Below w3.heap.size w3 w') := Lib.hid (by
      have e2 : (C.flatten.map (List.map byteV)).flatten = C.flatten.flatten.map byteV := List.map_flatten.symm
      refine (ConcatB_any v3 (C.flatten.map (List.map byteV)) hm3.vals (fun l hl y hy => ?_) (by rw [List.length_map, HFL.out.1]; omega) (by rw [e2, List.length_map, HFL.out.2]; omega)).mono ?_
      · obtain ⟨r, -, rfl⟩ := List.mem_map.1 hl
        obtain ⟨z, -, rfl⟩ := List.mem_map.1 hy
        rfl
      · rintro e w' ⟨v', rfl, ho, hb⟩
        rw [e2, List.length_map, HFL.out.2] at ho
        exact ⟨v', rfl, ho, hb⟩)
    clear hm3 hb3 c0 c1 c2 c3 c4
    go_wp2_with fail
    refine HCB.out.mono ?_
    rintro e w4 ⟨v4, rfl, ho4, hb4⟩
    have HB4 := Lib.hid (HB3.out.trans (hb4.mono HB3.out.size))
    have HX4 := Lib.hid (HX3.out.mono hb4)
    have HO4 := Lib.hid ho4
    obtain ⟨c0, c1, c2, c3, c4⟩ := HX4.out.cells
    have hd : C.flatten.flatten.length = symT s b * b := HFL.out.2
    obtain ⟨a4, cp4, rfl, hcp4, hg4⟩ := own_open ho4
    have hT1 := symT_pos s b
    have hN1 : 1 ≤ symT s b * b := Nat.mul_pos hT1 HP.out.b1
    obtain ⟨g, rfl⟩ := hg4 hN1
    have hge : w.heap.size ≤ g := Nat.le_trans HB3.out.size (ho4.lt g rfl).1
    have hgl : g < w4.heap.size := (ho4.lt g rfl).2
    have hl4 : ListAt byteV w4 (.slice (some ⟨g, 0, none⟩) (symT s b * b) cp4) C.flatten.flatten := by
      have := ListAt.of_owns (f := byteV) (l := C.flatten.flatten) (show w4.ownsRow w3.heap.size 5 1 (.slice (some ⟨g, 0, none⟩) (symT s b * b) cp4) C.flatten.flatten.length _ by rw [hd]; exact ho4)
      exact this
    have HL4 := Lib.hid hl4
    have hsN := hTb.1
    have hN2 := hsl.2
    have hcm : cp4 ≤ 9223372036854775807 := by
      rcases ho4.2 with ⟨e1, _⟩ | ⟨g', cap, cur, e1, _, _, _, hm, _⟩
      · cases e1
      · simp at e1; rw [e1.2]; exact hm
    have hcut := (show ListAt byteV w4 (.slice (some ⟨g, 0, none⟩) C.flatten.flatten.length cp4) C.flatten.flatten by rw [hd]; exact hl4).cutAt s (by rw [hd]; exact hsN)
    rw [hd, Nat.zero_add] at hcut
    have HCUT2 := Lib.hid hcut
    obtain ⟨z, hz⟩ : ∃ z, z = zeroB (C.flatten.flatten.drop s) := ⟨_, rfl⟩
    have HZ1 : Hid (cp4 = s → Calls Tryd.prog 35 #[.slice (some ⟨g, 0, none⟩) 0 0] w4 fun e w' => e = .returned (.bool z) ∧ w4 = w') := Lib.hid fun e => by
      rw [hz]
      refine Zero_any _ _ ?_
      have h := hcut.addr0 (a' := some ⟨g, 0, none⟩) (by omega)
      rwa [e, Nat.sub_self, show symT s b * b - s = 0 by omega] at h
    have HZ2 : Hid (Calls Tryd.prog 35 #[.slice (some ⟨g, s, none⟩) (symT s b * b - s) (cp4 - s)] w4 fun e w' => e = .returned (.bool z) ∧ w4 = w') := Lib.hid (by rw [hz]; exact Zero_any _ _ hcut)
    have HZZ := Lib.hid hz
    have HD : Hid (C.flatten.flatten.length = symT s b * b) := Lib.hid hd
    clear ho4 hg4 hb4 hl4 hTb hTl hsl hd hcut hz HCUT2
    generalize hDE : C.flatten.flatten = D at *
    have HDE := Lib.hid hDE
    clear hDE
    generalize symT s b * b = N at *
    have hBI : BytesIn w4 g (D.take s) := ⟨hgl, fun j hj => by
      rw [List.length_take] at hj
      have := HO4.out.cellAt j (by omega)
      rw [this]
      have hjD : j < D.length := by omega
      have hjs : j < s := by omega
      simp [List.getD_eq_getElem?_getD, hjD, hjs]⟩
    have HBI := Lib.hid hBI
    have HDL : Hid ((D.take s).length = s) := Lib.hid (by rw [List.length_take, HD.out]; omega)
    clear hBI
    by_cases hcs : cp4 = s
    · have HZ := Lib.hid (HZ1.out hcs)
      subst hcs
      clear HZ1 HZ2
      cases z with
      | true =>
        go_wp2_with fail
        refine HZ.out.mono ?_
        rintro e w5 ⟨rfl, rfl⟩
        go_wp2
        go_ret2
        exact ⟨HB4.out, .inl ⟨⟨HF.out, by rw [HDE.out]; exact HZZ.out.symm⟩, g, rfl, hge, by rw [HDE.out]; exact HBI.out, by rw [HDE.out]; exact HDL.out⟩⟩
      | false =>
        go_wp2_with fail
        refine HZ.out.mono ?_
        rintro e w5 ⟨rfl, rfl⟩
        go_wp2_with fail
        refine (New_ans nameBkJoin 2 (by decide) _).mono ?_
        rintro e w6 ⟨E, rfl, hc, hb6⟩
        have HCE := Lib.hid hc
        have HB6 := Lib.hid (HB4.out.trans (hb6.mono HB4.out.size))
        clear hc hb6
        go_wp2
        go_ret2
        exact ⟨HB6.out, .inr ⟨fun h => (by have := h.2; rw [HDE.out, ← HZZ.out] at this; cases this), _, rfl, HCE.out⟩⟩
    · have HZ := Lib.hid HZ2.out
      clear HZ1 HZ2
      cases z with
      | true =>
        go_wp2_with fail
        refine HZ.out.mono ?_
        rintro e w5 ⟨rfl, rfl⟩
        go_wp2
        go_ret2
        exact ⟨HB4.out, .inl ⟨⟨HF.out, by rw [HDE.out]; exact HZZ.out.symm⟩, g, rfl, hge, by rw [HDE.out]; exact HBI.out, by rw [HDE.out]; exact HDL.out⟩⟩
      | false =>
        go_wp2_with fail
        refine HZ.out.mono ?_
        rintro e w5 ⟨rfl, rfl⟩
        go_wp2_with fail
        refine (New_ans nameBkJoin 2 (by decide) _).mono ?_
        rintro e w6 ⟨E, rfl, hc, hb6⟩
        have HCE := Lib.hid hc
        have HB6 := Lib.hid (HB4.out.trans (hb6.mono HB4.out.size))
        clear hc hb6
        go_wp2
        go_ret2
        exact ⟨HB6.out, .inr ⟨fun h => (by have := h.2; rw [HDE.out, ← HZZ.out] at this; cases this), _, rfl, HCE.out⟩⟩
end Go.Proofs.YteilneoamhnndaaDoor
