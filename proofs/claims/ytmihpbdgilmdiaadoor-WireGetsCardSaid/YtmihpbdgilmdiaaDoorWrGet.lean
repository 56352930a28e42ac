/- The document's Get (layer 16). -/
import Derived.Test.YtmihpbdgilmdiaaDoorWrGuess
import Derived.Test.YtmihpbdgilmdiaaDoorWrGuessA
import Derived.Test.YtmihpbdgilmdiaaDoorWrChk
import Derived.Deep.RegionLaw
namespace Go.Proofs.YtmihpbdgilmdiaaDoor
open Go.RowKit Go.Extern.Stop Go.Stop Go.Extern

theorem rGuess_any {w : World} (v : Value) (c : List Nat) (kd : Int) (h : ListAt byteV w v c) (ho : Octets c) (hR : c.length ≤ 140737488351248) : Calls Tryd.prog 34 #[v, .int .i64 kd] w fun e w' =>
    ∃ v', e = .returned v' ∧ PktAt w' v' (gsP c kd) ∧ Below w.heap.size w w' := by
  unfold gsP
  by_cases hk : kd = 1
  · rw [if_pos hk]; exact rGuessD_any v c kd hk h ho hR
  · rw [if_neg hk]; exact rGuessA_any v c kd hk h ho hR

theorem numI {c : List Nat} (ho : Octets c) (a k : Nat) (hk : k ≤ 5) : I64 ((numA c a k : Nat) : Int) ∧ I64 (((numA c a k : Nat) : Int) + 1) := by
  have h := Nat.lt_of_lt_of_le (numA_lt c ho a k) (show 256 ^ k ≤ 256 ^ 5 from Nat.pow_le_pow_right (by decide) hk)
  have h2 : (256 : Nat) ^ 5 = 1099511627776 := by decide
  rw [h2] at h
  exact ⟨⟨by omega, by omega⟩, ⟨by omega, by omega⟩⟩
theorem fits_gs {c : List Nat} (ho : Octets c) (kd : Int) (hk : I64 kd) : FitsP (gsP c kd) := by
  have z : I64 0 := ⟨by decide, by decide⟩
  have hr : I64 (((numA c 9 1 % 128 : Nat) : Int) - 1) := ⟨by omega, by omega⟩
  unfold gsP
  split
  · exact ⟨hk, (numI ho 1 2 (by decide)).1, (numI ho 3 1 (by decide)).1, (numI ho 4 5 (by decide)).1, hr, (numI ho 10 2 (by decide)).1, (numI ho 12 2 (by decide)).1, (numI ho 14 1 (by decide)).1, (numI ho 15 2 (by decide)).1, z, z, z, z, z, z, z, z, z, fun x hx => ho x (List.mem_of_mem_drop hx)⟩
  · exact ⟨hk, (numI ho 1 2 (by decide)).1, (numI ho 3 1 (by decide)).1, (numI ho 4 5 (by decide)).1, z, z, z, z, z, (numI ho 9 4 (by decide)).1, (numI ho 13 1 (by decide)).1, (numI ho 14 1 (by decide)).1, (numI ho 15 1 (by decide)).1, (numI ho 16 1 (by decide)).1, (numI ho 17 1 (by decide)).1, (numI ho 18 2 (by decide)).2, (numI ho 20 2 (by decide)).1, (numI ho 22 2 (by decide)).1, fun x hx => by cases hx⟩

/-- What bytes are: why none's, or whose. -/
def GotP (l : List Nat) (k : Int) (p : Pkt) : Prop :=
  (l.length < 4 ∧ k = 2 ∧ p = pkt0) ∨ (4 ≤ l.length ∧ ¬ WholeS l ∧ k = 6 ∧ p = pkt0) ∨
  (4 ≤ l.length ∧ WholeS l ∧ (∀ q, ¬ IsP (l.take (l.length - 4)) q) ∧ k = 2 ∧ p = pkt0) ∨ (4 ≤ l.length ∧ WholeS l ∧ k = 0 ∧ IsP (l.take (l.length - 4)) p)
theorem GotP.same {l : List Nat} {k k' : Int} {p p' : Pkt} (h : GotP l k p) (h' : GotP l k' p') : k = k' ∧ p = p' := by
  rcases h with ⟨a, b, c⟩ | ⟨a, b, c, d⟩ | ⟨a, b, c, d, e⟩ | ⟨a, b, c, d⟩ <;> rcases h' with ⟨a', b', c'⟩ | ⟨a', b', c', d'⟩ | ⟨a', b', c', d', e'⟩ | ⟨a', b', c', d'⟩
  all_goals first
    | omega
    | exact absurd b' b
    | exact absurd b b'
    | exact absurd d' (c p')
    | exact absurd d (c' p)
    | exact ⟨by rw [b, b'], by rw [c, c']⟩
    | exact ⟨by rw [c, c'], by rw [d, d']⟩
    | exact ⟨by rw [d, d'], by rw [e, e']⟩
    | exact ⟨by rw [c, c'], d.same d'⟩

section
variable {P : Program} {ops : Array Oper} {rest : List Oper} {o : Oper} {a : Act} {w : World} {Q : Exit → Act → World → Prop}
theorem wpList_storeRow0 {W : World} {t : TypeId} {old : Array Value} (cells : Array Value) (hgd : o.guard = none) (ty : TypeId) (x y : Operand) (ho : o.op = .store ty x y) (hx : a.eval x = .pointer (some ⟨W.heap.size, 0, none⟩)) (hy : a.eval y = .agg cells)
    (hi : (P.info? ty).map (·.size) = some cells.size) (hold : old.size = cells.size) (h1 : cells.all (·.oneCell') = true)
    (h : wpList P ops Q rest (a.put o.dst undef) (W.alloc (.cells cells t))) : wpList P ops Q (o :: rest) a (W.alloc (.cells old t)) := by
  refine wpList_store_row hgd ty x y ho W.heap.size cells hx hy t old (heap_alloc_last W _) hi hold h1 ?_
  rw [World.setRow_alloc_new W old cells t]
  exact h
theorem step_loadRow {K : Act → World → Prop} {E : Prop} (hw : Region.wanted o (yielded ops a.tmps) = true) (ty : TypeId) (x : Operand) (ho : o.op = .load ty x)
    (g : Nat) (hx : a.eval x = .pointer (some ⟨g, 0, none⟩)) (t : TypeId) (cs : Array Value) (fr : Nat × Nat) (d : TypeDesc) (hg : w.heap[g]? = some (.cells cs t fr))
    (hu : P.underlying ty = some d) (hd : (match d with | .struct _ | .array _ _ => true | _ => false) = true) (hi : (P.info? ty).map (·.size) = some cs.size)
    (h : K (a.put o.dst (.agg cs)) w) : if Region.wanted o (yielded ops a.tmps) = true then Oper.wp P o a w K Q else E := by
  rw [if_pos hw]; exact wp_load_row ty x ho g hx t cs fr d hg hu hd hi h
end

theorem pkt0_noByte (k : Nat) (x : Int) : (pktC pkt0 nilS)[k]? ≠ some (.int .u8 x) := fun h => by
  have hm := Array.mem_of_getElem? h
  simp [pktC, pkt0] at hm
/-- what is written over an empty packet leaves bytes as they are -/
theorem listAt_setRow {w : World} {g : Nat} {t : TypeId} {fr : Nat × Nat} {v : Value} {l : List Nat} (hg : w.heap[g]? = some (.cells (pktC pkt0 nilS) t fr)) (h : ListAt byteV w v l) (cs : Array Value) : ListAt byteV (w.setRow g cs) v l := by
  obtain ⟨a, cap, rfl, h1, h2, h3⟩ := h
  refine ⟨a, cap, rfl, h1, h2, fun hp => ?_⟩
  obtain ⟨b, off, rfl, hc⟩ := h3 hp
  refine ⟨b, off, rfl, fun j hj => ?_⟩
  have hne : b ≠ g := by
    rintro rfl
    have e := hc j hj
    have e2 : w.cell? ⟨b, off + j, none⟩ = (pktC pkt0 nilS)[off + j]? := by simp [World.cell?, hg]
    rw [e2] at e
    exact pkt0_noByte _ _ e
  rw [← hc j hj]
  exact World.cell?_of_block (w := w) (a := ⟨b, off + j, none⟩) (setRow_other _ _ _ _ hne)

set_option linter.unusedVariables false in
set_option linter.unusedSimpArgs false in
set_option maxRecDepth 1000000 in
set_option maxHeartbeats 8000000 in
theorem rGet_any {w : World} (v : Value) (l : List Nat) (h : ListAt byteV w v l) (ho : Octets l) (hR : l.length ≤ 140737488351232) : Calls Tryd.prog 15 #[v] w fun e w' =>
    ∃ v' k p, e = .returned (.tuple #[v', .int .i64 k]) ∧ PktAt w' v' p ∧ GotP l k p ∧ Below w.heap.size w w' := by
  have HTK := Lib.hid fun (V : World) (hV : Below w.heap.size w V) => ckTake_any v l (h.mono hV) ho hR
  obtain ⟨W1, hW1, hb1, hx1⟩ := pkt_laid w pkt0 nilS
  have HB := Lib.hid hb1
  have HW := Lib.hid hW1
  have HX := Lib.hid hx1
  have HO := Lib.hid ho
  unfold pktC pkt0 at HW
  clear hW1 hb1 hx1 ho
  go_enter Tryd.func15, Tryd.ntmps15
  go_upto_region 1 with fail
  rw [← HW.out]
  go_wp2_with fail
  refine (HTK.out _ HB.out).mono ?_
  rintro e w2 ⟨hb2, ⟨h4, rfl⟩ | ⟨h4, hnw, rfl⟩ | ⟨h4, hws, v2, rfl, hl2⟩⟩
  · have HV2 := Lib.hid (HB.out.trans (hb2.mono HB.out.size))
    have HR8 := Lib.hid (HX.out.mono hb2)
    clear hb2
    go_wp2_with (first
      | ((with_reducible show wpList _ _ _ (⟨some 15, _, _, _, _, _⟩ :: _) _ _); refine wpList_built rfl 26 _ rfl (pktC pkt0 nilS) (by kernel_rfl) ?_)
      | ((with_reducible show wpList _ _ _ (⟨none, _, _, _, _, _⟩ :: _) _ _); refine wpList_store_row rfl 26 (.tmp 2) (.tmp 15) rfl w.heap.size (pktC pkt0 nilS) rfl rfl 26 _ HR8.out (by kernel_rfl) (by rfl) (by kernel_rfl) ?_))
    refine bodyPost_ret (bk_row2 rfl _ _ w.heap.size 26 _ (0, 0) _ rfl (setRow_heap _ _ _ _ _ _ HR8.out) Tryd.underlying26 rfl (by kernel_rfl)) rfl ?_
    exact ⟨_, 2, pkt0, rfl, ⟨nilS, rfl, ListAt.nil _ _⟩, .inl ⟨h4, rfl, rfl⟩, below_setRow HV2.out (Nat.le_refl _) _⟩
  · have HV2 := Lib.hid (HB.out.trans (hb2.mono HB.out.size))
    have HR8 := Lib.hid (HX.out.mono hb2)
    clear hb2
    go_wp2_with (first
      | ((with_reducible show wpList _ _ _ (⟨some 15, _, _, _, _, _⟩ :: _) _ _); refine wpList_built rfl 26 _ rfl (pktC pkt0 nilS) (by kernel_rfl) ?_)
      | ((with_reducible show wpList _ _ _ (⟨none, _, _, _, _, _⟩ :: _) _ _); refine wpList_store_row rfl 26 (.tmp 2) (.tmp 15) rfl w.heap.size (pktC pkt0 nilS) rfl rfl 26 _ HR8.out (by kernel_rfl) (by rfl) (by kernel_rfl) ?_))
    refine bodyPost_ret (bk_row2 rfl _ _ w.heap.size 26 _ (0, 0) _ rfl (setRow_heap _ _ _ _ _ _ HR8.out) Tryd.underlying26 rfl (by kernel_rfl)) rfl ?_
    exact ⟨_, 6, pkt0, rfl, ⟨nilS, rfl, ListAt.nil _ _⟩, .inr (.inl ⟨h4, hnw, rfl, rfl⟩), below_setRow HV2.out (Nat.le_refl _) _⟩
  · have HV2 := Lib.hid hb2
    have HL2 := Lib.hid hl2
    have HOB : Hid (Octets (l.take (l.length - 4))) := Lib.hid fun x hx => HO.out x (List.mem_of_mem_take hx)
    have hcl : (l.take (l.length - 4)).length ≤ 140737488351232 := by rw [List.length_take]; omega
    obtain ⟨C, hC⟩ : ∃ C, C = l.take (l.length - 4) := ⟨_, rfl⟩
    rw [← hC] at HL2 HOB hcl
    have HCC := Lib.hid hC
    have HWS := Lib.hid hws
    clear hb2 hl2 hC hws HTK
    obtain ⟨a2, c2, hv2, -, -, -⟩ := HL2.out
    subst hv2
    have HST := Lib.hid (fun (V : World) (hV : Below w2.heap.size w2 V) => (HL2.out.mono hV).str)
    go_upto_region 4 with fail
    go_wp2_with fail
    go_loopw [6] (fun i wr => ∃ k : Nat, 1 ≤ k ∧ k ≤ 3 ∧ i = .int .i64 (k : Int) ∧ (∀ t : Nat, 1 ≤ t → t < k → ¬ IsP C (gsP C (t : Int))) ∧ Below W1.heap.size W1 wr ∧ Below w2.heap.size w2 wr) (fun i _ => 3 - (intOf i).toNat)
    case atStart => exact ⟨1, by omega, by omega, rfl, fun t h1 h2 => by omega, HV2.out, Below.refl _ _⟩
    case round =>
      obtain ⟨k, hk1, hk3, rfl, hno, hbel, hbel2⟩ := hrel
      have HBL := Lib.hid hbel
      have HBL2 := Lib.hid hbel2
      have HNO := Lib.hid hno
      clear hbel hbel2 hno
      by_cases hlt : k ≤ 2
      · have d1 : decide ((k : Int) ≤ 2) = true := decide_eq_true (by omega)
        have HG := Lib.hid (rGuess_any _ C (k : Int) (HL2.out.mono HBL2.out) HOB.out (by omega))
        have HFT := Lib.hid (fits_gs HOB.out (k : Int) ⟨by omega, by omega⟩)
        obtain ⟨P, hP⟩ : ∃ P, P = gsP C (k : Int) := ⟨_, rfl⟩
        rw [← hP] at HG HFT
        have HPE := Lib.hid hP
        clear hP
        go_wp2_with fail
        refine HG.out.mono ?_
        rintro e w5 ⟨v5, rfl, ⟨D5, rfl, hD5⟩, hb5⟩
        have HB5 := Lib.hid (HBL.out.trans (hb5.mono HBL.out.size))
        have HB52 := Lib.hid (HBL2.out.trans (hb5.mono HBL2.out.size))
        have HD5 := Lib.hid hD5
        obtain ⟨ad, cd, hDe, -, -, -⟩ := hD5
        subst hDe
        clear hb5
        unfold pktV pktC
        go_upto_region 8 with ((with_reducible show wpList _ _ _ (⟨none, _, _, _, _, _⟩ :: _) _ _); refine wpList_storeRow0 _ rfl 26 (.tmp 7) (.tmp 23) rfl rfl rfl (by kernel_rfl) (by rfl) (by kernel_rfl) ?_)
        obtain ⟨W6, hW6, hb6, hx6⟩ := pkt_laid w5 P (.slice ad P.data.length cd)
        have HB6 := Lib.hid (HB5.out.trans (hb6.mono HB5.out.size))
        have HB62 := Lib.hid (HB52.out.trans (hb6.mono HB52.out.size))
        have HX6 := Lib.hid hx6
        have HD6 := Lib.hid (HD5.out.mono hb6)
        have HCK : Hid (∀ V : World, Below W6.heap.size W6 V → Calls Tryd.prog 10 #[.agg (pktC P (.slice ad P.data.length cd))] V fun e w' => e = .returned (.int .i64 (ckN P)) ∧ Below V.heap.size V w') := Lib.hid fun V hV => rCheck_any P _ (HD6.out.mono hV) HFT.out
        have HBO : Hid (RangedP P → FormP P → ∀ V : World, Below W6.heap.size W6 V → Calls Tryd.prog 30 #[.agg (pktC P (.slice ad P.data.length cd))] V fun e w' => ∃ v', e = .returned v' ∧ w'.ownsRow V.heap.size 5 1 v' (bodyP P).length ((bodyP P).map byteV) ∧ Below V.heap.size V w') := Lib.hid fun h1 h2 V hV => rBody_any P _ (HD6.out.mono hV) h1 h2
        have HW6 := Lib.hid hW6
        unfold pktC at HW6 HCK HBO
        rw [← HW6.out]
        clear hW6 hb6 hx6 HW6
        have hbd : Below W6.heap.size W6 W6.drew := (Below.refl _ _).drew
        have HBD := Lib.hid hbd
        have HXD := Lib.hid (HX6.out.mono hbd)
        have HCKD := Lib.hid (HCK.out _ hbd)
        clear hbd
        by_cases hck : ckN P = 0
        · have e1 : (ckN P == 0) = true := by simp [hck]
          obtain ⟨hr, hf⟩ := ckN_zero.1 hck
          have HRP := Lib.hid hr
          have HFP := Lib.hid hf
          have HBO2 := Lib.hid (HBO.out hr hf)
          have HSB : Hid (∀ V : World, Below W6.heap.size W6 V → (convert 22 9 (.slice a2 C.length c2)).run Tryd.prog V = .ok (.string (strN C)) V) := Lib.hid fun V hV => HST.out V (HB62.out.trans (hV.mono HB62.out.size))
          have hs6 := HSB.out _ HBD.out
          obtain ⟨be, hbe⟩ : ∃ b : Bool, ((strN (bodyP P)).toList == (strN C).toList) = b := ⟨_, rfl⟩
          have HCMP : Hid (decide (bodyP P = C) = be) := Lib.hid (by rw [← hbe, strN_same (bodyP_octets HFT.out.octs) HOB.out])
          clear hck hr hf
          generalize ckN P = n at *
          refine wp_region_any (by kernel_rfl) ?_
          change wpAny _ _ _ _ _ _ _ (World.drew _)
          (refine wpAny_ready (rs := [0]) (by kernel_rfl) (by simp) ?_; refine AllReady.cons rfl (fun K hK => ?_) AllReady.nil; refine step_loadRow (by rfl) 26 (.tmp 7) rfl w5.heap.size rfl 26 (pktC P (.slice ad P.data.length cd)) (0, 0) _ HXD.out Tryd.underlying26 rfl (by kernel_rfl) ?_; unfold pktC; refine hK _ _ ?_; clear hK K; (try simp only [List.getElem_toArray, List.getElem_cons_succ, List.getElem_cons_zero, Act.put, List.setIfInBounds_toArray, List.set_cons_zero, List.set_cons_succ]))
          (refine wpAny_ready (rs := [1]) (by kernel_rfl) (by simp) ?_; refine AllReady.cons rfl (fun K hK => ?_) AllReady.nil; go_simp; go_at_call 10; (with_reducible refine HCKD.out.mono ?_); rintro e w7 ⟨rfl, hb7⟩; have HB7 := Lib.hid (HBD.out.trans (hb7.mono HBD.out.size)); have HX7 := Lib.hid (HX6.out.mono HB7.out); have hs7 := HSB.out _ HB7.out; have HBO7 := Lib.hid (HBO2.out _ HB7.out); clear hb7; refine hK _ _ ?_; clear hK K; (try simp only [List.getElem_toArray, List.getElem_cons_succ, List.getElem_cons_zero, Act.put, List.setIfInBounds_toArray, List.set_cons_zero, List.set_cons_succ]))
          refine wpAny_take (i := 2) (v := ?_) rfl (by kernel_rfl) (by kernel_rfl) (by kernel_rfl) (fun _ _ _ h => h) (Or.inl ⟨by rfl, ?_⟩) ?_
          rotate_left
          focus (intro w; go_simp; first | done | with_reducible rfl)
          (try simp only [List.getElem_toArray, List.getElem_cons_succ, List.getElem_cons_zero, Act.put, List.setIfInBounds_toArray, List.set_cons_zero, List.set_cons_succ])
          refine wpAny_take (i := 3) (v := ?_) rfl (by kernel_rfl) (by kernel_rfl) (by kernel_rfl) (fun _ _ _ h => h) (Or.inl ⟨by rfl, ?_⟩) ?_
          rotate_left
          focus (intro w; go_simp; first | done | with_reducible rfl)
          (try simp only [List.getElem_toArray, List.getElem_cons_succ, List.getElem_cons_zero, Act.put, List.setIfInBounds_toArray, List.set_cons_zero, List.set_cons_succ])
          refine wpAny_take (i := 7) (v := ?_) rfl (by kernel_rfl) (by kernel_rfl) (by kernel_rfl) (fun _ _ _ h => h) (Or.inl ⟨by rfl, ?_⟩) ?_
          rotate_left
          focus (intro w; go_simp; first | done | with_reducible rfl)
          (try simp only [List.getElem_toArray, List.getElem_cons_succ, List.getElem_cons_zero, Act.put, List.setIfInBounds_toArray, List.set_cons_zero, List.set_cons_succ])
          refine wpAny_ready (rs := [4, 8]) (by kernel_rfl) (by simp) ?_; refine AllReady.cons rfl (fun K hK => ?_) (AllReady.cons rfl (fun K hK => ?_) AllReady.nil); rotate_left; (focus (go_simp; refine hK _ _ ?_; clear hK K; (try simp only [List.getElem_toArray, List.getElem_cons_succ, List.getElem_cons_zero, Act.put, List.setIfInBounds_toArray, List.set_cons_zero, List.set_cons_succ]); refine wpAny_ready (rs := [4]) (by kernel_rfl) (by simp) ?_; refine AllReady.cons rfl (fun K hK => ?_) AllReady.nil; refine step_loadRow (by rfl) 26 (.tmp 7) rfl w5.heap.size rfl 26 (pktC P (.slice ad P.data.length cd)) (0, 0) _ HX7.out Tryd.underlying26 rfl (by kernel_rfl) ?_; unfold pktC; refine hK _ _ ?_; clear hK K; (try simp only [List.getElem_toArray, List.getElem_cons_succ, List.getElem_cons_zero, Act.put, List.setIfInBounds_toArray, List.set_cons_zero, List.set_cons_succ]); refine wpAny_ready (rs := [5]) (by kernel_rfl) (by simp) ?_; refine AllReady.cons rfl (fun K hK => ?_) AllReady.nil; go_simp; go_at_call 30; (with_reducible refine HBO7.out.mono ?_); rintro e w8 ⟨v8, rfl, ho8, hb8⟩; have HB8 := Lib.hid (HB7.out.trans (hb8.mono HB7.out.size)); have hs8 := HSB.out _ HB8.out; have hv8 := (ListAt.of_owns (f := byteV) (l := bodyP P) ho8).str; obtain ⟨a8, c8, hve8, -, -⟩ := own_open ho8; subst hve8; clear ho8 hb8; refine hK _ _ ?_; clear hK K; (try simp only [List.getElem_toArray, List.getElem_cons_succ, List.getElem_cons_zero, Act.put, List.setIfInBounds_toArray, List.set_cons_zero, List.set_cons_succ]); refine wpAny_ready (rs := [6]) (by kernel_rfl) (by simp) ?_; refine AllReady.cons rfl (fun K hK => ?_) AllReady.nil; go_simp; refine hK _ _ ?_; clear hK K; (try simp only [List.getElem_toArray, List.getElem_cons_succ, List.getElem_cons_zero, Act.put, List.setIfInBounds_toArray, List.set_cons_zero, List.set_cons_succ]))); rotate_right; (focus (refine step_loadRow (by rfl) 26 (.tmp 7) rfl w5.heap.size rfl 26 (pktC P (.slice ad P.data.length cd)) (0, 0) _ HX7.out Tryd.underlying26 rfl (by kernel_rfl) ?_; unfold pktC; refine hK _ _ ?_; clear hK K; (try simp only [List.getElem_toArray, List.getElem_cons_succ, List.getElem_cons_zero, Act.put, List.setIfInBounds_toArray, List.set_cons_zero, List.set_cons_succ]); refine wpAny_ready (rs := [5, 8]) (by kernel_rfl) (by simp) ?_; refine AllReady.cons rfl (fun K hK => ?_) (AllReady.cons rfl (fun K hK => ?_) AllReady.nil); rotate_left; (focus (go_simp; refine hK _ _ ?_; clear hK K; (try simp only [List.getElem_toArray, List.getElem_cons_succ, List.getElem_cons_zero, Act.put, List.setIfInBounds_toArray, List.set_cons_zero, List.set_cons_succ]); refine wpAny_ready (rs := [5]) (by kernel_rfl) (by simp) ?_; refine AllReady.cons rfl (fun K hK => ?_) AllReady.nil; go_simp; go_at_call 30; (with_reducible refine HBO7.out.mono ?_); rintro e w8 ⟨v8, rfl, ho8, hb8⟩; have HB8 := Lib.hid (HB7.out.trans (hb8.mono HB7.out.size)); have hs8 := HSB.out _ HB8.out; have hv8 := (ListAt.of_owns (f := byteV) (l := bodyP P) ho8).str; obtain ⟨a8, c8, hve8, -, -⟩ := own_open ho8; subst hve8; clear ho8 hb8; refine hK _ _ ?_; clear hK K; (try simp only [List.getElem_toArray, List.getElem_cons_succ, List.getElem_cons_zero, Act.put, List.setIfInBounds_toArray, List.set_cons_zero, List.set_cons_succ]); refine wpAny_ready (rs := [6]) (by kernel_rfl) (by simp) ?_; refine AllReady.cons rfl (fun K hK => ?_) AllReady.nil; go_simp; refine hK _ _ ?_; clear hK K; (try simp only [List.getElem_toArray, List.getElem_cons_succ, List.getElem_cons_zero, Act.put, List.setIfInBounds_toArray, List.set_cons_zero, List.set_cons_succ]))); rotate_right; (focus (go_simp; go_at_call 30; (with_reducible refine HBO7.out.mono ?_); rintro e w8 ⟨v8, rfl, ho8, hb8⟩; have HB8 := Lib.hid (HB7.out.trans (hb8.mono HB7.out.size)); have hs8 := HSB.out _ HB8.out; have hv8 := (ListAt.of_owns (f := byteV) (l := bodyP P) ho8).str; obtain ⟨a8, c8, hve8, -, -⟩ := own_open ho8; subst hve8; clear ho8 hb8; refine hK _ _ ?_; clear hK K; (try simp only [List.getElem_toArray, List.getElem_cons_succ, List.getElem_cons_zero, Act.put, List.setIfInBounds_toArray, List.set_cons_zero, List.set_cons_succ]); refine wpAny_ready (rs := [6, 8]) (by kernel_rfl) (by simp) ?_; refine AllReady.cons rfl (fun K hK => ?_) (AllReady.cons rfl (fun K hK => ?_) AllReady.nil); rotate_left; (focus (go_simp; refine hK _ _ ?_; clear hK K; (try simp only [List.getElem_toArray, List.getElem_cons_succ, List.getElem_cons_zero, Act.put, List.setIfInBounds_toArray, List.set_cons_zero, List.set_cons_succ]); refine wpAny_ready (rs := [6]) (by kernel_rfl) (by simp) ?_; refine AllReady.cons rfl (fun K hK => ?_) AllReady.nil; go_simp; refine hK _ _ ?_; clear hK K; (try simp only [List.getElem_toArray, List.getElem_cons_succ, List.getElem_cons_zero, Act.put, List.setIfInBounds_toArray, List.set_cons_zero, List.set_cons_succ]))); rotate_right; (focus (go_simp; refine hK _ _ ?_; clear hK K; (try simp only [List.getElem_toArray, List.getElem_cons_succ, List.getElem_cons_zero, Act.put, List.setIfInBounds_toArray, List.set_cons_zero, List.set_cons_succ]); refine wpAny_ready (rs := [8]) (by kernel_rfl) (by simp) ?_; refine AllReady.cons rfl (fun K hK => ?_) AllReady.nil; go_simp; refine hK _ _ ?_; clear hK K; (try simp only [List.getElem_toArray, List.getElem_cons_succ, List.getElem_cons_zero, Act.put, List.setIfInBounds_toArray, List.set_cons_zero, List.set_cons_succ])))))))
          all_goals
            refine wpAny_take (i := 9) (v := ?_) rfl (by kernel_rfl) (by kernel_rfl) (by kernel_rfl) (fun _ _ _ h => h) (Or.inl ⟨by rfl, ?_⟩) ?_
            rotate_left
            focus (intro w; go_simp; first | done | with_reducible rfl)
            (try simp only [List.getElem_toArray, List.getElem_cons_succ, List.getElem_cons_zero, Act.put, List.setIfInBounds_toArray, List.set_cons_zero, List.set_cons_succ])
            refine wpAny_take (i := 10) (v := ?_) rfl (by kernel_rfl) (by kernel_rfl) (by kernel_rfl) (fun _ _ _ h => h) (Or.inl ⟨by rfl, ?_⟩) ?_
            rotate_left
            focus (intro w; go_simp; first | done | with_reducible rfl)
            (try simp only [List.getElem_toArray, List.getElem_cons_succ, List.getElem_cons_zero, Act.put, List.setIfInBounds_toArray, List.set_cons_zero, List.set_cons_succ])
            refine wpAny_done (by kernel_rfl) ?_ _
            have HB9 := Lib.hid (HB6.out.trans (HB8.out.mono HB6.out.size))
            have HB92 := Lib.hid (HB62.out.trans (HB8.out.mono HB62.out.size))
            cases be with
            | true =>
              have HBE : Hid (bodyP P = C) := Lib.hid (of_decide_eq_true HCMP.out)
              have HX8 := Lib.hid (HX6.out.mono HB8.out)
              have HR8 := Lib.hid (HX.out.mono HB9.out)
              have HD8 := Lib.hid (HD6.out.mono HB8.out)
              go_wp2_with (first
                | ((with_reducible show wpList _ _ _ (⟨some 35, _, _, _, _, _⟩ :: _) _ _); refine wpList_load_row rfl 26 (.tmp 7) rfl w5.heap.size rfl 26 (pktC P (.slice ad P.data.length cd)) (0, 0) _ HX8.out Tryd.underlying26 rfl (by kernel_rfl) ?_)
                | ((with_reducible show wpList _ _ _ (⟨none, _, _, _, _, _⟩ :: _) _ _); refine wpList_store_row rfl 26 (.tmp 2) (.tmp 35) rfl w.heap.size (pktC P (.slice ad P.data.length cd)) rfl rfl 26 _ HR8.out (by kernel_rfl) (by rfl) (by kernel_rfl) ?_))
              refine bodyPost_ret (bk_row2 rfl _ _ w.heap.size 26 _ (0, 0) _ rfl (setRow_heap _ _ _ _ _ _ HR8.out) Tryd.underlying26 rfl (by kernel_rfl)) rfl ?_
              exact ⟨_, 0, P, rfl, ⟨_, rfl, listAt_setRow HR8.out HD8.out _⟩, .inr (.inr (.inr ⟨h4, HWS.out, rfl, by rw [← HCC.out]; exact ⟨HRP.out, HFP.out, HBE.out⟩⟩)), below_setRow (HB.out.trans (HB9.out.mono HB.out.size)) (Nat.le_refl _) _⟩
            | false =>
              have HNI : Hid (¬ IsP C P) := Lib.hid fun h => by
                have := HCMP.out
                rw [decide_eq_true h.2.2] at this
                cases this
              have HNN : Hid (∀ t : Nat, 1 ≤ t → t < k + 1 → ¬ IsP C (gsP C (t : Int))) := Lib.hid fun t h1 h2 => by
                by_cases e : t = k
                · rw [e, ← HPE.out]; exact HNI.out
                · exact HNO.out t h1 (by omega)
              go_wp2
              go_roundw
              case rel => exact ⟨k + 1, by omega, by omega, by go_num, HNN.out, HB9.out, HB92.out⟩
              case measure => simp [intOf]; omega
        · have e1 : (ckN P == 0) = false := by simp [hck]
          have HNI : Hid (¬ IsP C P) := Lib.hid fun h => hck (ckN_zero.2 ⟨h.1, h.2.1⟩)
          clear hck
          generalize ckN P = n at *
          refine wp_region_quiet (C := fun V => Below W6.heap.size W6 V) (by kernel_rfl) (by kernel_rfl) HBD.out ?_
          dsimp only
          refine BigFrame.wpQuiet_want rfl (fun K hK => ⟨.agg (pktC P (.slice ad P.data.length cd)), fun V hV => ?_, hK _ ?_⟩)
          · exact quietAt_loadRow 26 (.tmp 7) rfl w5.heap.size rfl 26 (pktC P (.slice ad P.data.length cd)) (0, 0) _ (HX6.out.mono hV) Tryd.underlying26 rfl (by kernel_rfl)
          clear hK K
          unfold pktC
          refine BigFrame.wpQuiet_want rfl (fun K hK => ⟨.int .i64 n, fun V hV => ?_, hK _ ?_⟩)
          · go_simp
            refine (HCK.out V hV).mono ?_
            rintro e w' ⟨rfl, hb⟩
            exact ⟨rfl, Below.trans hV (hb.mono (Below.size hV))⟩
          clear hK K
          repeat (first | go_big_quiet_step (fail) | (refine wpQuiet_step (fun K hK => ?_); go_simp; refine ⟨_, fun _ _ => rfl, hK _ ?_⟩; clear hK K))
          refine wpQuiet_nil ?_
          intro w8 hb8
          have HB8 := Lib.hid (HB6.out.trans (Below.mono hb8 HB6.out.size))
          have HB82 := Lib.hid (HB62.out.trans (Below.mono hb8 HB62.out.size))
          clear hb8
          have HNN : Hid (∀ t : Nat, 1 ≤ t → t < k + 1 → ¬ IsP C (gsP C (t : Int))) := Lib.hid fun t h1 h2 => by
            by_cases e : t = k
            · rw [e, ← HPE.out]; exact HNI.out
            · exact HNO.out t h1 (by omega)
          go_wp2
          go_roundw
          case rel => exact ⟨k + 1, by omega, by omega, by go_num, HNN.out, HB8.out, HB82.out⟩
          case measure => simp [intOf]; omega
      · obtain rfl : k = 3 := by omega
        have HR8 := Lib.hid (HX.out.mono HBL.out)
        have HNQ : Hid (∀ q, ¬ IsP (l.take (l.length - 4)) q) := Lib.hid fun q hq => by
          rw [← HCC.out] at hq
          have h1 := hq.1.k1
          have h2 := hq.1.k2
          obtain ⟨t, ht⟩ : ∃ t : Nat, q.kind = (t : Int) := ⟨q.kind.toNat, by omega⟩
          have h3 := HNO.out t (by omega) (by omega)
          rw [← ht, hq.guess] at h3
          exact h3 hq
        go_wp2_with (first
          | ((with_reducible show wpList _ _ _ (⟨some 36, _, _, _, _, _⟩ :: _) _ _); refine wpList_built rfl 26 _ rfl (pktC pkt0 nilS) (by kernel_rfl) ?_)
          | ((with_reducible show wpList _ _ _ (⟨none, _, _, _, _, _⟩ :: _) _ _); refine wpList_store_row rfl 26 (.tmp 2) (.tmp 36) rfl w.heap.size (pktC pkt0 nilS) rfl rfl 26 _ HR8.out (by kernel_rfl) (by rfl) (by kernel_rfl) ?_))
        refine bodyPost_ret (bk_row2 rfl _ _ w.heap.size 26 _ (0, 0) _ rfl (setRow_heap _ _ _ _ _ _ HR8.out) Tryd.underlying26 rfl (by kernel_rfl)) rfl ?_
        exact ⟨_, 2, pkt0, rfl, ⟨nilS, rfl, ListAt.nil _ _⟩, .inr (.inr (.inl ⟨h4, HWS.out, HNQ.out, rfl, rfl⟩)), below_setRow (HB.out.trans (HBL.out.mono HB.out.size)) (Nat.le_refl _) _⟩
end Go.Proofs.YtmihpbdgilmdiaaDoor
