import Derived.Test.YtmihpbdgilmdiaaWlG
import Derived.Test.YtmihpbdgilmdiaaCkLb
import Derived.Deep.RegionHeld
import Derived.Test.YtmihpbdgilmdiaaWlA
import Derived.Test.YtmihpbdgilmdiaaWrC
import Derived.Test.YtmihpbdgilmdiaaJ11

section
/- The landed package wire: read (layer 16). (Made by genwlh.py.) -/
namespace Go.Proofs.Ytmihpbdgilmdiaa
open Go.RowKit Go.Extern.Stop Go.Stop Go.Extern

section
variable {P : Program} {ops : Array Oper} {o : Oper} {a : Act} {w : World} {Q : Exit → Act → World → Prop}
theorem step_storeRow {K : Act → World → Prop} {E : Prop} (hw : Region.wanted o (yielded ops a.tmps) = true) (ty : TypeId) (x y : Operand) (ho : o.op = .store ty x y)
    (g : Nat) (cells : Array Value) (hx : a.eval x = .pointer (some ⟨g, 0, none⟩)) (hy : a.eval y = .agg cells)
    (t : TypeId) (old : Array Value) (hg : w.heap[g]? = some (.cells old t (0, 0))) (hi : (P.info? ty).map (·.size) = some cells.size)
    (hold : old.size = cells.size) (h1 : cells.all (·.oneCell') = true)
    (h : K (a.put o.dst undef) (w.setRow g cells)) : if Region.wanted o (yielded ops a.tmps) = true then Oper.wp P o a w K Q else E := by
  rw [if_pos hw]; exact wp_store_row ty x y ho g cells hx hy t old hg hi hold h1 h
theorem exec_built (t : TypeId) (parts : Array (Nat × Operand)) (ho : o.op = .build t parts) (cells : Array Value) (hb : P.built t (parts.map fun (i, x) => (i, a.eval x)).toList = some cells) :
    (execOp a.eval o).run P w = .ok (.value (.agg cells)) w := by
  unfold execOp
  simp only [ho, Sem.run_bind, run_build w t _ cells hb, Result.andThen_ok]
  rfl
end
/-- a packet of these first numbers -/
def headP (a b c d : Nat) : Pkt := { pkt0 with kind := (a : Int), session := (b : Int), layer := (c : Int), tick := (d : Int) }
theorem readP_data {l : List Nat} (h9 : 9 ≤ l.length) (hk : numA l 0 1 = 1) (h8 : 8 ≤ (l.drop 9).length) : readP l = dataP (headP (numA l 0 1) (numA l 1 2) (numA l 3 1) (numA l 4 5)) (l.drop 9) := by
  rw [List.length_drop] at h8
  unfold readP
  rw [if_neg (by omega), if_pos hk, if_neg (by omega), hk]
  unfold gsD dataP headP
  simp only [numA_drop, List.drop_drop]
  rfl
theorem readP_ann {l : List Nat} (h9 : 9 ≤ l.length) (hk : numA l 0 1 = 2) (h15 : (l.drop 9).length = 15) : readP l = annP (headP (numA l 0 1) (numA l 1 2) (numA l 3 1) (numA l 4 5)) (l.drop 9) := by
  rw [List.length_drop] at h15
  unfold readP
  rw [if_neg (by omega), if_neg (by omega), if_pos hk, if_pos (by omega), hk]
  unfold gsA annP headP
  simp only [numA_drop]
  rfl
theorem readP_short {l : List Nat} (h : l.length < 9) : readP l = pkt0 := by unfold readP; rw [if_pos h]
theorem readP_data0 {l : List Nat} (h9 : 9 ≤ l.length) (hk : numA l 0 1 = 1) (h8 : (l.drop 9).length < 8) : readP l = pkt0 := by
  rw [List.length_drop] at h8
  unfold readP
  rw [if_neg (by omega), if_pos hk, if_pos (by omega)]
theorem readP_ann0 {l : List Nat} (h9 : 9 ≤ l.length) (hk : numA l 0 1 = 2) (h15 : (l.drop 9).length ≠ 15) : readP l = pkt0 := by
  rw [List.length_drop] at h15
  unfold readP
  rw [if_neg (by omega), if_neg (by omega), if_pos hk, if_neg (by omega)]
theorem readP_other {l : List Nat} (h9 : 9 ≤ l.length) (h1 : numA l 0 1 ≠ 1) (h2 : numA l 0 1 ≠ 2) : readP l = pkt0 := by
  unfold readP
  rw [if_neg (by omega), if_neg h1, if_neg h2]

set_option linter.unusedSimpArgs false in
set_option linter.unusedVariables false in
set_option maxRecDepth 1000000 in
set_option maxHeartbeats 8000000 in
theorem wlRead_any {w : World} (v : Value) (l : List Nat) (h : ListAt byteV w v l) (ho : Octets l) (hl : l.length ≤ 140737488351248) : Calls Try.prog 20 #[v] w fun e w' => Below w.heap.size w w' ∧
    ∃ D', e = .returned (pktV (readP l) D') ∧ w'.ownsRow w.heap.size 5 1 D' (readP l).data.length ((readP l).data.map byteV) := by
  obtain ⟨W2, hW2, hb2, hx2⟩ := pkt_laid w pkt0 nilS
  have HB2 := Lib.hid hb2
  have HXR := Lib.hid hx2
  have HW : Hid (w.alloc (.cells (pktC pkt0 nilS) 26) = W2) := Lib.hid hW2.symm
  have HL0 := Lib.hid h
  obtain ⟨V, hV⟩ : ∃ V, V = W2.alloc (.cells #[.int .i64 1, .int .i64 2, .int .i64 1, .int .i64 5] 3) := ⟨_, rfl⟩
  have HV := Lib.hid hV
  have HBV : Hid (Below w.heap.size w V) := Lib.hid (by rw [hV]; exact HB2.out.alloc HB2.out.size _)
  have HB2V : Hid (Below W2.heap.size W2 V) := Lib.hid (by rw [hV]; exact (Below.refl _ _).alloc (Nat.le_refl _) _)
  have HTD : Hid (Calls Try.prog 27 #[v, .slice (some ⟨W2.heap.size, 0, none⟩) 4 4] V fun e w' => Below V.heap.size V w' ∧
      ((l.length < 9 ∧ e = .returned (.tuple #[nilS, nilS])) ∨ (9 ≤ l.length ∧ ∃ v1 v2, e = .returned (.tuple #[v1, v2]) ∧ w'.ownsRow V.heap.size 3 1 v1 4 ([numA l 0 1, numA l 1 2, numA l 3 1, numA l 4 5].map wdV) ∧ ∀ U, ListAt byteV U v l → ListAt byteV U v2 (l.drop 9)))) :=
    Lib.hid (wlTold_any v _ l [1, 2, 1, 5] (h.mono HBV.out) (by rw [hV]; exact wds_new W2 [1, 2, 1, 5] (by decide)) ho (by decide) (by decide))
  have HVO : Hid (∃ a n cp, v = .slice a n cp) := Lib.hid (by obtain ⟨a, cp, rfl, -⟩ := h; exact ⟨_, _, _, rfl⟩)
  have HO9 : Hid (Octets (l.drop 9)) := Lib.hid fun x hx => ho x (List.mem_of_mem_drop hx)
  have HL9 : Hid ((l.drop 9).length ≤ 140737488351248) := Lib.hid (by rw [List.length_drop]; omega)
  have q22 : ∀ (w : World) (a : Option Addr) (n c : Nat), (binOp .eql 61 (.slice a n c) (.slice none 0 0)).run Try.prog w = .ok (.bool a.isNone) w := fun w a n c => Go.run_eql_slice_nil w _ _ a n c Try.underlying61
  have HS0 : Hid (l.length < 9 → readP l = pkt0) := Lib.hid readP_short
  have HS1 : Hid (9 ≤ l.length → numA l 0 1 = 1 → 8 ≤ (l.drop 9).length → readP l = dataP (headP (numA l 0 1) (numA l 1 2) (numA l 3 1) (numA l 4 5)) (l.drop 9)) := Lib.hid readP_data
  have HS2 : Hid (9 ≤ l.length → numA l 0 1 = 2 → (l.drop 9).length = 15 → readP l = annP (headP (numA l 0 1) (numA l 1 2) (numA l 3 1) (numA l 4 5)) (l.drop 9)) := Lib.hid readP_ann
  have HS3 : Hid (9 ≤ l.length → numA l 0 1 = 1 → (l.drop 9).length < 8 → readP l = pkt0) := Lib.hid readP_data0
  have HS4 : Hid (9 ≤ l.length → numA l 0 1 = 2 → (l.drop 9).length ≠ 15 → readP l = pkt0) := Lib.hid readP_ann0
  have HS5 : Hid (9 ≤ l.length → numA l 0 1 ≠ 1 → numA l 0 1 ≠ 2 → readP l = pkt0) := Lib.hid readP_other
  unfold pktC at HW
  unfold pkt0 at HW
  dsimp only at HW
  clear hW2 hb2 hx2 hV ho h hl
  generalize numA l 0 1 = y0 at *
  generalize numA l 1 2 = y1 at *
  generalize numA l 3 1 = y2 at *
  generalize numA l 4 5 = y3 at *
  generalize hRP : readP l = RP at *
  go_enter Try.func20, Try.ntmps20
  go_upto_region 1 with fail
  rw [HW.out]
  go_wp2_with fail
  rw [← HV.out]
  refine HTD.out.mono ?_
  rintro e w3 ⟨hb3, ⟨h9, rfl⟩ | ⟨h9, v1, v2, rfl, ho3, hr3⟩⟩
  · have HB3 := Lib.hid (HBV.out.trans (hb3.mono HBV.out.size))
    have HR3 := Lib.hid (HXR.out.mono (HB2V.out.trans (hb3.mono HB2V.out.size)))
    have HE := Lib.hid (HS0.out h9)
    clear hb3 h9
    go_wp2_with (first
      | ((with_reducible show wpList _ _ _ (⟨some 14, _, _, _, _, _⟩ :: _) _ _); refine wpList_built rfl 26 _ rfl (pktC pkt0 nilS) (by kernel_rfl) ?_)
      | ((with_reducible show wpList _ _ _ (⟨none, _, _, _, _, _⟩ :: _) _ _); refine wpList_store_row rfl 26 (.tmp 2) (.tmp 14) rfl w.heap.size (pktC pkt0 nilS) rfl rfl 26 _ HR3.out (by kernel_rfl) (by rfl) (by kernel_rfl) ?_))
    refine bodyPost_ret (wl_row1 rfl _ _ w.heap.size 26 _ (0, 0) _ rfl (setRow_heap _ _ _ _ _ _ HR3.out) Try.underlying26 rfl (by kernel_rfl)) rfl ?_
    exact ⟨below_setRow HB3.out (Nat.le_refl _) _, nilS, by rw [HE.out]; rfl, by rw [HE.out]; exact World.ownsRow_nil _ _ _ _⟩
  · have HB3 := Lib.hid (HBV.out.trans (hb3.mono HBV.out.size))
    have HR3 := Lib.hid (HXR.out.mono (HB2V.out.trans (hb3.mono HB2V.out.size)))
    have HO3 := Lib.hid ho3
    have HRS := Lib.hid hr3
    have HH9 := Lib.hid h9
    obtain ⟨an, cn, hne, -, hng⟩ := own_open ho3
    obtain ⟨gn, rfl⟩ := hng (by decide)
    subst hne
    have hcn : ∀ t (u : Value), ([y0, y1, y2, y3].map wdV)[t]? = some u → w3.cell? ⟨gn, t, none⟩ = some u := fun t u hu => by
      have := own_cells HO3.out (by rfl) t u hu
      rwa [show Addr.add ⟨gn, 0, none⟩ t = ⟨gn, 0 + t, none⟩ from Go.WideShapes.add_plain .., Nat.zero_add] at this
    have HNC : Hid (∀ U, Below w3.heap.size w3 U → ∀ t (u : Value), ([y0, y1, y2, y3].map wdV)[t]? = some u → U.cell? ⟨gn, t, none⟩ = some u) := Lib.hid fun U hU t u hu =>
      (hU.cell (p := ⟨gn, t, none⟩) (World.block_lt_of_cell? w3 _ (hcn t u hu))).trans (hcn t u hu)
    obtain ⟨P0, hP0⟩ : ∃ P : Pkt, P = headP y0 y1 y2 y3 := ⟨_, rfl⟩
    have HP0 := Lib.hid hP0
    have HB34 : Hid (Below w3.heap.size w3 (w3.alloc (.cells (pktC pkt0 nilS) 26))) := Lib.hid ((Below.refl _ _).alloc (Nat.le_refl _) _)
    have HXN : Hid ((w3.alloc (.cells (pktC pkt0 nilS) 26)).drew.heap[w3.heap.size]? = some (.cells (pktC pkt0 nilS) 26 (0, 0))) := Lib.hid (heap_alloc_new w3 (.cells (pktC pkt0 nilS) 26))
    clear hb3 ho3 hr3 hcn h9 hng hP0
    go_upto_region 4 with fail
    have HBD : Below w3.heap.size w3 w3.drew := (Below.refl _ _).drew
    refine wp_region_held_drew (S := fun V => Below w3.heap.size w3 V) (by kernel_rfl) HBD (fun _ => ?_)
    (refine wpAnyH_take (i := 0) (v := ?_) rfl (by kernel_rfl) (by kernel_rfl) (by kernel_rfl) (fun _ _ _ h => h) (Or.inl ⟨by rfl, ?_⟩) HBD ?_; rotate_left; (focus (intro V hV; go_simp; first | done | with_reducible rfl)); (try simp only [List.getElem_toArray, List.getElem_cons_succ, List.getElem_cons_zero, Act.put, List.setIfInBounds_toArray, List.set_cons_zero, List.set_cons_succ]); refine wpAnyH_take (i := 1) (v := ?_) rfl (by kernel_rfl) (by kernel_rfl) (by kernel_rfl) (fun _ _ _ h => h) (Or.inl ⟨by rfl, ?_⟩) HBD ?_; rotate_left; (focus (intro V hV; go_simp; first | done | with_reducible rfl)); (try simp only [List.getElem_toArray, List.getElem_cons_succ, List.getElem_cons_zero, Act.put, List.setIfInBounds_toArray, List.set_cons_zero, List.set_cons_succ]); refine wpAnyH_take (i := 3) (v := ?_) rfl (by kernel_rfl) (by kernel_rfl) (by kernel_rfl) (fun _ _ _ h => h) (Or.inl ⟨by rfl, ?_⟩) HBD ?_; rotate_left; (focus (intro V hV; go_simp; first | done | with_reducible rfl)); (try simp only [List.getElem_toArray, List.getElem_cons_succ, List.getElem_cons_zero, Act.put, List.setIfInBounds_toArray, List.set_cons_zero, List.set_cons_succ]); refine wpAnyH_take (i := 4) (v := ?_) rfl (by kernel_rfl) (by kernel_rfl) (by kernel_rfl) (fun _ _ _ h => h) (Or.inl ⟨by rfl, ?_⟩) HBD ?_; rotate_left; (focus (intro V hV; go_simp; first | done | with_reducible rfl)); (try simp only [List.getElem_toArray, List.getElem_cons_succ, List.getElem_cons_zero, Act.put, List.setIfInBounds_toArray, List.set_cons_zero, List.set_cons_succ]); refine wpAnyH_take (i := 6) (v := ?_) rfl (by kernel_rfl) (by kernel_rfl) (by kernel_rfl) (fun _ _ _ h => h) (Or.inl ⟨by rfl, ?_⟩) HBD ?_; rotate_left; (focus (intro V hV; go_simp; first | done | with_reducible rfl)); (try simp only [List.getElem_toArray, List.getElem_cons_succ, List.getElem_cons_zero, Act.put, List.setIfInBounds_toArray, List.set_cons_zero, List.set_cons_succ]); refine wpAnyH_take (i := 7) (v := ?_) rfl (by kernel_rfl) (by kernel_rfl) (by kernel_rfl) (fun _ _ _ h => h) (Or.inl ⟨by rfl, ?_⟩) HBD ?_; rotate_left; (focus (intro V hV; go_simp; first | done | with_reducible rfl)); (try simp only [List.getElem_toArray, List.getElem_cons_succ, List.getElem_cons_zero, Act.put, List.setIfInBounds_toArray, List.set_cons_zero, List.set_cons_succ]); refine wpAnyH_take (i := 9) (v := ?_) rfl (by kernel_rfl) (by kernel_rfl) (by kernel_rfl) (fun _ _ _ h => h) (Or.inl ⟨by rfl, ?_⟩) HBD ?_; rotate_left; (focus (intro V hV; go_simp; first | done | with_reducible rfl)); (try simp only [List.getElem_toArray, List.getElem_cons_succ, List.getElem_cons_zero, Act.put, List.setIfInBounds_toArray, List.set_cons_zero, List.set_cons_succ]); refine wpAnyH_take (i := 10) (v := ?_) rfl (by kernel_rfl) (by kernel_rfl) (by kernel_rfl) (fun _ _ _ h => h) (Or.inl ⟨by rfl, ?_⟩) HBD ?_; rotate_left; (focus (intro V hV; go_simp; first | done | with_reducible rfl)); (try simp only [List.getElem_toArray, List.getElem_cons_succ, List.getElem_cons_zero, Act.put, List.setIfInBounds_toArray, List.set_cons_zero, List.set_cons_succ]); refine wpAnyH_take (i := 2) (v := (.int .i64 (y0 : Int))) rfl (by kernel_rfl) (by kernel_rfl) (by kernel_rfl) (fun _ _ _ h => h) (Or.inl ⟨by rfl, ?_⟩) HBD ?_; (focus (intro V hV; have c : V.cell? ⟨gn, 0, none⟩ = some (.int .i64 (y0 : Int)) := HNC.out V hV 0 _ rfl; go_simp)); (try simp only [List.getElem_toArray, List.getElem_cons_succ, List.getElem_cons_zero, Act.put, List.setIfInBounds_toArray, List.set_cons_zero, List.set_cons_succ]); refine wpAnyH_take (i := 5) (v := (.int .i64 (y1 : Int))) rfl (by kernel_rfl) (by kernel_rfl) (by kernel_rfl) (fun _ _ _ h => h) (Or.inl ⟨by rfl, ?_⟩) HBD ?_; (focus (intro V hV; have c : V.cell? ⟨gn, 1, none⟩ = some (.int .i64 (y1 : Int)) := HNC.out V hV 1 _ rfl; go_simp)); (try simp only [List.getElem_toArray, List.getElem_cons_succ, List.getElem_cons_zero, Act.put, List.setIfInBounds_toArray, List.set_cons_zero, List.set_cons_succ]); refine wpAnyH_take (i := 8) (v := (.int .i64 (y2 : Int))) rfl (by kernel_rfl) (by kernel_rfl) (by kernel_rfl) (fun _ _ _ h => h) (Or.inl ⟨by rfl, ?_⟩) HBD ?_; (focus (intro V hV; have c : V.cell? ⟨gn, 2, none⟩ = some (.int .i64 (y2 : Int)) := HNC.out V hV 2 _ rfl; go_simp)); (try simp only [List.getElem_toArray, List.getElem_cons_succ, List.getElem_cons_zero, Act.put, List.setIfInBounds_toArray, List.set_cons_zero, List.set_cons_succ]); refine wpAnyH_take (i := 11) (v := (.int .i64 (y3 : Int))) rfl (by kernel_rfl) (by kernel_rfl) (by kernel_rfl) (fun _ _ _ h => h) (Or.inl ⟨by rfl, ?_⟩) HBD ?_; (focus (intro V hV; have c : V.cell? ⟨gn, 3, none⟩ = some (.int .i64 (y3 : Int)) := HNC.out V hV 3 _ rfl; go_simp)); (try simp only [List.getElem_toArray, List.getElem_cons_succ, List.getElem_cons_zero, Act.put, List.setIfInBounds_toArray, List.set_cons_zero, List.set_cons_succ]); refine wpAnyH_take (i := 12) (v := (.agg (pktC (headP y0 y1 y2 y3) nilS))) rfl (by kernel_rfl) (by kernel_rfl) (by kernel_rfl) (fun _ _ _ h => h) (Or.inl ⟨by rfl, ?_⟩) HBD ?_; (focus (intro V hV; exact exec_built 26 _ (by rfl) (pktC (headP y0 y1 y2 y3) nilS) (by kernel_rfl))); (try simp only [List.getElem_toArray, List.getElem_cons_succ, List.getElem_cons_zero, Act.put, List.setIfInBounds_toArray, List.set_cons_zero, List.set_cons_succ]); refine wpAnyH_ready (rs := [13]) (by kernel_rfl) (by simp) ?_; refine AllReadyH.cons rfl (fun K hK => ?_) (AllReadyH.nil); go_simp; have HS4 : Below w3.heap.size w3 ((w3.alloc (.cells (pktC pkt0 nilS) 26)).drew) := HB34.out.drew; refine Shut.out hK _ _ HS4 (fun _ => ?_); clear hK K; (try simp only [List.getElem_toArray, List.getElem_cons_succ, List.getElem_cons_zero, Act.put, List.setIfInBounds_toArray, List.set_cons_zero, List.set_cons_succ]); refine wpAnyH_ready (rs := [14]) (by kernel_rfl) (by simp) ?_; refine AllReadyH.cons rfl (fun K hK => ?_) (AllReadyH.nil); refine step_storeRow (by rfl) 26 (.tmp 5) (.tmp 27) (by rfl) w3.heap.size (pktC (headP y0 y1 y2 y3) nilS) (by rfl) (by rfl) 26 _ HXN.out (by kernel_rfl) (by rfl) (by kernel_rfl) ?_; have HS5 : Below w3.heap.size w3 ((w3.alloc (.cells (pktC pkt0 nilS) 26)).drew.setRow w3.heap.size (pktC (headP y0 y1 y2 y3) nilS)) := below_setRow HS4 (Nat.le_refl _) _; refine Shut.out hK _ _ HS5 (fun _ => ?_); clear hK K; (try simp only [List.getElem_toArray, List.getElem_cons_succ, List.getElem_cons_zero, Act.put, List.setIfInBounds_toArray, List.set_cons_zero, List.set_cons_succ]))
    all_goals refine wpAnyH_done (by kernel_rfl) ?_ _
    all_goals
      obtain ⟨W4, hW4⟩ : ∃ W, W = (w3.alloc (.cells #[.int .i64 0, .int .i64 0, .int .i64 0, .int .i64 0, .bool false, .int .i64 0, .int .i64 0, .int .i64 0, .int .i64 0, .int .i64 0, .slice none 0 0, .int .i64 0, .int .i64 0, .int .i64 0, .int .i64 0, .int .i64 0, .int .i64 0, .int .i64 0, .int .i64 0, .int .i64 0] 26)).drew.setRow w3.heap.size (pktC (headP y0 y1 y2 y3) nilS) := ⟨_, rfl⟩
      rw [← hW4]
      have HX4 : Hid (PktBox W4 w3.heap.size P0 nilS) := Lib.hid (by rw [hW4, HP0.out]; exact setRow_heap _ _ _ _ _ _ HXN.out)
      have HB4 : Hid (Below w.heap.size w W4) := Lib.hid (by rw [hW4]; exact below_setRow ((HB3.out.alloc HB3.out.size _).drew) HB3.out.size _)
      have HR4 : Hid (PktBox W4 w.heap.size pkt0 nilS) := Lib.hid (by
        rw [hW4]
        have h1 : (w3.alloc (.cells (pktC pkt0 nilS) 26)).heap[w.heap.size]? = some (.cells (pktC pkt0 nilS) 26 (0, 0)) := HR3.out.mono HB34.out
        have h2 := HR3.out.lt
        exact (setRow_other _ _ _ _ (by omega)).trans h1)
      have hk0 : W4.cell? ⟨w3.heap.size, 0, none⟩ = some (.int .i64 (y0 : Int)) := by
        have := HX4.out.cells.c0
        rw [HP0.out] at this
        exact this
      clear hW4 HXN HB34 HNC HS4 HS5
      have HL4 := Lib.hid (HRS.out W4 (HL0.out.mono HB4.out))
      have HDT := Lib.hid (wlData_any P0 nilS v2 _ HL4.out HO9.out HL9.out)
      have HAN := Lib.hid (wlAnn_any P0 v2 _ HL4.out HO9.out)
      rw [← HP0.out] at HS1 HS2
      generalize hD9 : l.drop 9 = D9 at *
      have HP8 : Hid ((dataP P0 D9).data = D9.drop 8 ∧ (D9.drop 8).length = D9.length - 8) := Lib.hid ⟨rfl, List.length_drop⟩
      generalize hPD : dataP P0 D9 = PD at *
      generalize hPA : annP P0 D9 = PA at *
      unfold pktV at HDT HAN
      by_cases k1 : y0 = 1
      · have e1 : ((y0 : Int) == 1) = true := by simp [k1]
        have HK := Lib.hid k1
        clear k1
        go_wp2_with ((with_reducible show wpList _ _ _ (⟨some 32, _, _, _, _, _⟩ :: _) _ _); refine wpList_load_row rfl 26 (.tmp 5) rfl w3.heap.size rfl 26 (pktC P0 nilS) (0, 0) _ HX4.out Try.underlying26 rfl (by kernel_rfl) ?_)
        refine HDT.out.mono ?_
        rintro e w5 ⟨hb5, ⟨h8, rfl⟩ | ⟨h8, D5, rfl, ho5⟩⟩
        · have HB5 := Lib.hid (HB4.out.trans (hb5.mono HB4.out.size))
          have HR5 := Lib.hid (HR4.out.mono hb5)
          have HE := Lib.hid (HS3.out HH9.out HK.out h8)
          clear hb5 h8
          go_wp2_with ((with_reducible show wpList _ _ _ (⟨none, _, _, _, _, _⟩ :: _) _ _); refine wpList_store_row rfl 26 (.tmp 2) (.tmp 34) rfl w.heap.size (pktC pkt0 nilS) rfl rfl 26 _ HR5.out (by kernel_rfl) (by rfl) (by kernel_rfl) ?_)
          refine bodyPost_ret (wl_row1 rfl _ _ w.heap.size 26 _ (0, 0) _ rfl (setRow_heap _ _ _ _ _ _ HR5.out) Try.underlying26 rfl (by kernel_rfl)) rfl ?_
          exact ⟨below_setRow HB5.out (Nat.le_refl _) _, nilS, by rw [HE.out]; rfl, by rw [HE.out]; exact World.ownsRow_nil _ _ _ _⟩
        · have HB5 := Lib.hid (HB4.out.trans (hb5.mono HB4.out.size))
          have HR5 := Lib.hid (HR4.out.mono hb5)
          have HE := Lib.hid (HS1.out HH9.out HK.out h8)
          have HO5 : Hid (w5.ownsRow w.heap.size 5 1 D5 PD.data.length (PD.data.map byteV)) := Lib.hid (by
            exact ownsRow_base (by rw [HP8.out.1, HP8.out.2]; exact ho5) HB4.out.size)
          obtain ⟨a5, c5, hv5, -, -⟩ := own_open HO5.out
          subst hv5
          clear hb5 h8 ho5
          go_wp2_with ((with_reducible show wpList _ _ _ (⟨none, _, _, _, _, _⟩ :: _) _ _); refine wpList_store_row rfl 26 (.tmp 2) (.tmp 34) rfl w.heap.size (pktC PD (.slice a5 PD.data.length c5)) rfl rfl 26 _ HR5.out (by kernel_rfl) (by rfl) (by kernel_rfl) ?_)
          refine bodyPost_ret (wl_row1 rfl _ _ w.heap.size 26 _ (0, 0) _ rfl (setRow_heap _ _ _ _ _ _ HR5.out) Try.underlying26 rfl (by kernel_rfl)) rfl ?_
          exact ⟨below_setRow HB5.out (Nat.le_refl _) _, _, by rw [HE.out]; rfl, by rw [HE.out]; exact own_row HO5.out HR5.out (by decide) _⟩
      · have e1 : ((y0 : Int) == 1) = false := by simp; omega
        have HK1 := Lib.hid k1
        by_cases k2 : y0 = 2
        · have e2 : ((y0 : Int) == 2) = true := by simp [k2]
          have HK := Lib.hid k2
          clear k1 k2
          go_wp2_with ((with_reducible show wpList _ _ _ (⟨some 37, _, _, _, _, _⟩ :: _) _ _); refine wpList_load_row rfl 26 (.tmp 5) rfl w3.heap.size rfl 26 (pktC P0 nilS) (0, 0) _ HX4.out Try.underlying26 rfl (by kernel_rfl) ?_)
          refine HAN.out.mono ?_
          rintro e w5 ⟨hb5, ⟨h8, rfl⟩ | ⟨h8, rfl⟩⟩
          · have HB5 := Lib.hid (HB4.out.trans (hb5.mono HB4.out.size))
            have HR5 := Lib.hid (HR4.out.mono hb5)
            have HE := Lib.hid (HS4.out HH9.out HK.out h8)
            clear hb5 h8
            go_wp2_with ((with_reducible show wpList _ _ _ (⟨none, _, _, _, _, _⟩ :: _) _ _); refine wpList_store_row rfl 26 (.tmp 2) (.tmp 39) rfl w.heap.size (pktC pkt0 nilS) rfl rfl 26 _ HR5.out (by kernel_rfl) (by rfl) (by kernel_rfl) ?_)
            refine bodyPost_ret (wl_row1 rfl _ _ w.heap.size 26 _ (0, 0) _ rfl (setRow_heap _ _ _ _ _ _ HR5.out) Try.underlying26 rfl (by kernel_rfl)) rfl ?_
            exact ⟨below_setRow HB5.out (Nat.le_refl _) _, nilS, by rw [HE.out]; rfl, by rw [HE.out]; exact World.ownsRow_nil _ _ _ _⟩
          · have HB5 := Lib.hid (HB4.out.trans (hb5.mono HB4.out.size))
            have HR5 := Lib.hid (HR4.out.mono hb5)
            have HE := Lib.hid (HS2.out HH9.out HK.out h8)
            have HPD0 : Hid (PA.data = []) := Lib.hid (by rw [← hPA]; show P0.data = []; rw [HP0.out]; rfl)
            clear hb5 h8
            go_wp2_with ((with_reducible show wpList _ _ _ (⟨none, _, _, _, _, _⟩ :: _) _ _); refine wpList_store_row rfl 26 (.tmp 2) (.tmp 39) rfl w.heap.size (pktC PA nilS) rfl rfl 26 _ HR5.out (by kernel_rfl) (by rfl) (by kernel_rfl) ?_)
            refine bodyPost_ret (wl_row1 rfl _ _ w.heap.size 26 _ (0, 0) _ rfl (setRow_heap _ _ _ _ _ _ HR5.out) Try.underlying26 rfl (by kernel_rfl)) rfl ?_
            exact ⟨below_setRow HB5.out (Nat.le_refl _) _, nilS, by rw [HE.out]; rfl, by rw [HE.out, HPD0.out]; exact World.ownsRow_nil _ _ _ _⟩
        · have e2 : ((y0 : Int) == 2) = false := by simp; omega
          have HE := Lib.hid (HS5.out HH9.out k1 k2)
          clear k1 k2
          go_wp2_with (first
            | ((with_reducible show wpList _ _ _ (⟨some 40, _, _, _, _, _⟩ :: _) _ _); refine wpList_built rfl 26 _ rfl (pktC pkt0 nilS) (by kernel_rfl) ?_)
            | ((with_reducible show wpList _ _ _ (⟨none, _, _, _, _, _⟩ :: _) _ _); refine wpList_store_row rfl 26 (.tmp 2) (.tmp 40) rfl w.heap.size (pktC pkt0 nilS) rfl rfl 26 _ HR4.out (by kernel_rfl) (by rfl) (by kernel_rfl) ?_))
          refine bodyPost_ret (wl_row1 rfl _ _ w.heap.size 26 _ (0, 0) _ rfl (setRow_heap _ _ _ _ _ _ HR4.out) Try.underlying26 rfl (by kernel_rfl)) rfl ?_
          exact ⟨below_setRow HB4.out (Nat.le_refl _) _, nilS, by rw [HE.out]; rfl, by rw [HE.out]; exact World.ownsRow_nil _ _ _ _⟩
end Go.Proofs.Ytmihpbdgilmdiaa
end

section
/- The landed package wire: Get (layer 16). -/
namespace Go.Proofs.Ytmihpbdgilmdiaa
open Go.RowKit Go.Extern.Stop Go.Stop Go.Extern

theorem pkt0_fits : FitsP pkt0 := by
  refine ⟨?_, ?_, ?_, ?_, ?_, ?_, ?_, ?_, ?_, ?_, ?_, ?_, ?_, ?_, ?_, ?_, ?_, ?_, fun x hx => by cases hx⟩
  all_goals exact ⟨by decide, by decide⟩
theorem readP_fits {l : List Nat} (ho : Octets l) : FitsP (readP l) := by
  unfold readP
  split
  · exact pkt0_fits
  · split
    · split
      · exact pkt0_fits
      · have := fits_gs ho 1 ⟨by decide, by decide⟩
        unfold gsP at this
        rwa [if_pos rfl] at this
    · split
      · split
        · have := fits_gs ho 2 ⟨by decide, by decide⟩
          unfold gsP at this
          rwa [if_neg (by decide)] at this
        · exact pkt0_fits
      · exact pkt0_fits
theorem errAns_setRow {k : Int} {c : ByteArray} {w : World} {E : Value} {g : Nat} {D : Value} {p : Pkt} (h : ErrAns k c w E) (hg : PktBox w g p D) (cs : Array Value) : ErrAns k c (w.setRow g cs) E :=
  errAns_kept2 h fun b s hs => setRow_other _ _ _ _ fun e => by
    subst e
    have := hg.cells.c0
    rw [this] at hs
    cases hs

set_option linter.unusedSimpArgs false in
set_option linter.unusedVariables false in
set_option maxRecDepth 1000000 in
set_option maxHeartbeats 8000000 in
theorem wrGetC : WrGetC := fun w v l h ho hl => by
  obtain ⟨W2, hW2, hb2, hx2⟩ := pkt_laid w pkt0 nilS
  have HB2 := Lib.hid hb2
  have HXR := Lib.hid hx2
  have HW : Hid (w.alloc (.cells (pktC pkt0 nilS) 26) = W2) := Lib.hid hW2.symm
  have HTK := Lib.hid (ckTakeC W2 v l (h.mono hb2) ho (by omega))
  have HOB : Hid (Octets (l.take (l.length - 4))) := Lib.hid fun x hx => ho x (List.mem_of_mem_take hx)
  have HTL : Hid ((l.take (l.length - 4)).length = l.length - 4) := Lib.hid (by rw [List.length_take]; omega)
  have hl4 : l.length - 4 ≤ 140737488351248 := by omega
  unfold pktC at HW
  unfold pkt0 at HW
  dsimp only at HW
  clear hW2 hb2 hx2 ho h
  go_enter Try.func11, Try.ntmps11
  go_upto_region 1 with fail
  rw [HW.out]
  go_wp2_with fail
  refine HTK.out.mono ?_
  rintro e w3 ⟨hb3, ⟨h4, E, rfl, hE⟩ | ⟨h4, hnw, E, rfl, hE⟩ | ⟨h4, hws, v3, rfl, ho3⟩⟩
  · have HB3 := Lib.hid (HB2.out.trans (hb3.mono HB2.out.size))
    have HR3 := Lib.hid (HXR.out.mono hb3)
    have HE := Lib.hid hE
    have HG : Hid (GotP l 2 pkt0) := Lib.hid (.inl ⟨h4, rfl, rfl⟩)
    obtain ⟨u, x, rfl⟩ := hE.some (by decide)
    clear hb3 hE h4
    go_wp2_with ((with_reducible show wpList _ _ _ (⟨some 14, _, _, _, _, _⟩ :: _) _ _); refine wpList_built rfl 26 _ rfl (pktC pkt0 nilS) (by kernel_rfl) ?_)
    refine (Wrap_ans nameWrGet nameCkTake 2 _ _ (by decide) HE.out).mono ?_
    rintro e w4 ⟨E', rfl, hc, hb4⟩
    have HC := Lib.hid hc
    have HB4 := Lib.hid (HB3.out.trans (hb4.mono HB3.out.size))
    have HR4 := Lib.hid (HR3.out.mono hb4)
    clear hc hb4
    go_wp2_with ((with_reducible show wpList _ _ _ (⟨none, _, _, _, _, _⟩ :: _) _ _); refine wpList_store_row rfl 26 (.tmp 2) (.tmp 14) rfl w.heap.size (pktC pkt0 nilS) rfl rfl 26 _ HR4.out (by kernel_rfl) (by rfl) (by kernel_rfl) ?_)
    refine bodyPost_ret (bk_row2 rfl _ _ w.heap.size 26 _ (0, 0) _ rfl (setRow_heap _ _ _ _ _ _ HR4.out) Try.underlying26 rfl (by kernel_rfl)) rfl ?_
    exact ⟨pkt0, 2, nilS, _, rfl, errAns_setRow HC.out HR4.out _, HG.out, World.ownsRow_nil _ _ _ _, below_setRow HB4.out (Nat.le_refl _) _⟩
  · have HB3 := Lib.hid (HB2.out.trans (hb3.mono HB2.out.size))
    have HR3 := Lib.hid (HXR.out.mono hb3)
    have HE := Lib.hid hE
    have HG : Hid (GotP l 6 pkt0) := Lib.hid (.inr (.inl ⟨h4, hnw, rfl, rfl⟩))
    obtain ⟨u, x, rfl⟩ := hE.some (by decide)
    clear hb3 hE h4 hnw
    go_wp2_with ((with_reducible show wpList _ _ _ (⟨some 14, _, _, _, _, _⟩ :: _) _ _); refine wpList_built rfl 26 _ rfl (pktC pkt0 nilS) (by kernel_rfl) ?_)
    refine (Wrap_ans nameWrGet nameCkTake 6 _ _ (by decide) HE.out).mono ?_
    rintro e w4 ⟨E', rfl, hc, hb4⟩
    have HC := Lib.hid hc
    have HB4 := Lib.hid (HB3.out.trans (hb4.mono HB3.out.size))
    have HR4 := Lib.hid (HR3.out.mono hb4)
    clear hc hb4
    go_wp2_with ((with_reducible show wpList _ _ _ (⟨none, _, _, _, _, _⟩ :: _) _ _); refine wpList_store_row rfl 26 (.tmp 2) (.tmp 14) rfl w.heap.size (pktC pkt0 nilS) rfl rfl 26 _ HR4.out (by kernel_rfl) (by rfl) (by kernel_rfl) ?_)
    refine bodyPost_ret (bk_row2 rfl _ _ w.heap.size 26 _ (0, 0) _ rfl (setRow_heap _ _ _ _ _ _ HR4.out) Try.underlying26 rfl (by kernel_rfl)) rfl ?_
    exact ⟨pkt0, 6, nilS, _, rfl, errAns_setRow HC.out HR4.out _, HG.out, World.ownsRow_nil _ _ _ _, below_setRow HB4.out (Nat.le_refl _) _⟩
  · have HB3 := Lib.hid (HB2.out.trans (hb3.mono HB2.out.size))
    have HR3 := Lib.hid (HXR.out.mono hb3)
    have HL3 : Hid (ListAt byteV w3 v3 (l.take (l.length - 4))) := Lib.hid (ListAt.of_owns ho3)
    have HRD := Lib.hid (wlRead_any v3 _ HL3.out HOB.out (by rw [HTL.out]; exact hl4))
    have HFT := Lib.hid (readP_fits HOB.out)
    have HG0 : Hid (ckN (readP (l.take (l.length - 4))) = 0 → GotP l 0 (readP (l.take (l.length - 4)))) := Lib.hid fun h => .inr (.inr (.inr ⟨h4, hws, rfl, readP_back HOB.out h⟩))
    have HG2 : Hid (ckN (readP (l.take (l.length - 4))) ≠ 0 → GotP l 2 pkt0) := Lib.hid fun h => .inr (.inr (.inl ⟨h4, hws, readP_none h, rfl, rfl⟩))
    obtain ⟨a3, c3, hv3, -, -⟩ := own_open ho3
    subst hv3
    generalize readP (l.take (l.length - 4)) = RP at *
    generalize l.length - 4 = m at *
    clear hb3 ho3 h4 hws
    go_wp2_with fail
    refine HRD.out.mono ?_
    rintro e w4 ⟨hb4, D4, rfl, ho4⟩
    have HB4 := Lib.hid (HB3.out.trans (hb4.mono HB3.out.size))
    have HR4 := Lib.hid (HR3.out.mono hb4)
    have HO4 := Lib.hid (ownsRow_base ho4 HB3.out.size)
    obtain ⟨a4, c4, hv4, -, -⟩ := own_open ho4
    subst hv4
    clear hb4 ho4
    unfold pktV
    go_upto_region 5 with ((with_reducible show wpList _ _ _ (⟨none, _, _, _, _, _⟩ :: _) _ _); refine wpList_storeRow0 _ rfl 26 (.tmp 6) (.tmp 18) rfl rfl rfl (by kernel_rfl) (by rfl) (by kernel_rfl) ?_)
    obtain ⟨W5, hW5, hb5, hx5⟩ := pkt_laid w4 RP (.slice a4 RP.data.length c4)
    have HB5 := Lib.hid (HB4.out.trans (hb5.mono HB4.out.size))
    have HR5 := Lib.hid (HR4.out.mono hb5)
    have HX5 := Lib.hid hx5
    have HO5 := Lib.hid (owns_kept HO4.out hb5)
    have HL5 : Hid (ListAt byteV W5 (.slice a4 RP.data.length c4) RP.data) := Lib.hid (ListAt.of_owns HO5.out)
    have HWR := Lib.hid (wlWrong_any RP _ HL5.out HFT.out)
    rw [← hW5]
    clear hW5 hb5 hx5
    unfold pktV at HWR
    generalize hck : ckN RP = k at *
    go_wp2_with ((with_reducible show wpList _ _ _ (⟨some 19, _, _, _, _, _⟩ :: _) _ _); refine wpList_load_row rfl 26 (.tmp 6) rfl w4.heap.size rfl 26 (pktC RP (.slice a4 RP.data.length c4)) (0, 0) _ HX5.out Try.underlying26 rfl (by kernel_rfl) ?_)
    refine HWR.out.mono ?_
    rintro e w6 ⟨rfl, hb6⟩
    have HB6 := Lib.hid (HB5.out.trans (hb6.mono HB5.out.size))
    have HR6 := Lib.hid (HR5.out.mono hb6)
    have HX6 := Lib.hid (HX5.out.mono hb6)
    have HO6 := Lib.hid (owns_kept HO5.out hb6)
    clear hb6 hck
    by_cases hk : k = 0
    · have e1 : (k != 0) = false := by simp [hk]
      have HG := Lib.hid (HG0.out hk)
      clear hk
      go_wp2_with (first
        | ((with_reducible show wpList _ _ _ (⟨some 24, _, _, _, _, _⟩ :: _) _ _); refine wpList_load_row rfl 26 (.tmp 6) rfl w4.heap.size rfl 26 (pktC RP (.slice a4 RP.data.length c4)) (0, 0) _ HX6.out Try.underlying26 rfl (by kernel_rfl) ?_)
        | ((with_reducible show wpList _ _ _ (⟨none, _, _, _, _, _⟩ :: _) _ _); refine wpList_store_row rfl 26 (.tmp 2) (.tmp 24) rfl w.heap.size (pktC RP (.slice a4 RP.data.length c4)) rfl rfl 26 _ HR6.out (by kernel_rfl) (by rfl) (by kernel_rfl) ?_))
      refine bodyPost_ret (bk_row2 rfl _ _ w.heap.size 26 _ (0, 0) _ rfl (setRow_heap _ _ _ _ _ _ HR6.out) Try.underlying26 rfl (by kernel_rfl)) rfl ?_
      exact ⟨RP, 0, _, _, rfl, ErrAns.none _ _, HG.out, own_row HO6.out HR6.out (by decide) _, below_setRow HB6.out (Nat.le_refl _) _⟩
    · have e1 : (k != 0) = true := by simp [hk]
      have HG := Lib.hid (HG2.out hk)
      clear hk
      go_wp2_with ((with_reducible show wpList _ _ _ (⟨some 22, _, _, _, _, _⟩ :: _) _ _); refine wpList_built rfl 26 _ rfl (pktC pkt0 nilS) (by kernel_rfl) ?_)
      refine (New_ans nameWrGet 2 (by decide) _).mono ?_
      rintro e w7 ⟨E', rfl, hc, hb7⟩
      have HC := Lib.hid hc
      have HB7 := Lib.hid (HB6.out.trans (hb7.mono HB6.out.size))
      have HR7 := Lib.hid (HR6.out.mono hb7)
      clear hc hb7
      go_wp2_with ((with_reducible show wpList _ _ _ (⟨none, _, _, _, _, _⟩ :: _) _ _); refine wpList_store_row rfl 26 (.tmp 2) (.tmp 22) rfl w.heap.size (pktC pkt0 nilS) rfl rfl 26 _ HR7.out (by kernel_rfl) (by rfl) (by kernel_rfl) ?_)
      refine bodyPost_ret (bk_row2 rfl _ _ w.heap.size 26 _ (0, 0) _ rfl (setRow_heap _ _ _ _ _ _ HR7.out) Try.underlying26 rfl (by kernel_rfl)) rfl ?_
      exact ⟨pkt0, 2, nilS, _, rfl, errAns_setRow HC.out HR7.out _, HG.out, World.ownsRow_nil _ _ _ _, below_setRow HB7.out (Nat.le_refl _) _⟩
end Go.Proofs.Ytmihpbdgilmdiaa
end
