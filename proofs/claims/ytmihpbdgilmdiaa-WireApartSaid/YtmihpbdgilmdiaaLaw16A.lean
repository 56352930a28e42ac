/- The sixteenth layer's law WireApart. (Made by gen16a.py.) -/
import Derived.Test.YtmihpbdgilmdiaaLaw16M
namespace Go.Proofs.Ytmihpbdgilmdiaa
open Go.RowKit Go.Extern.Stop Go.Stop Go.Extern

theorem exec_conv {P : Program} {o : Oper} {a : Act} {V : World} {r : Value} (f t : TypeId) (x : Operand) (ho : o.op = .convert f t x) (u : Value) (hx : a.eval x = u) (h : (convert f t u).run P V = .ok r V) : (execOp a.eval o).run P V = .ok (.value r) V := by
  unfold execOp
  simp only [ho, hx, Sem.run_bind, Sem.run_pure, Result.andThen_ok, h]

set_option linter.unusedSimpArgs false in
set_option maxRecDepth 1000000 in
set_option maxHeartbeats 8000000 in
theorem apart16 (hP : WrPutC) (hG : WrGetC) {w : World} (p q : Pkt) (D E : Value) (hD : ListAt byteV w D p.data) (hE : ListAt byteV w E q.data) (hF : FitsP p) (hF' : FitsP q) :
    Calls Try.prog 5 #[pktV p D, pktV q E] w fun e w' => e = .returned (.bool true) ∧ Below w.heap.size w w' := by
  have HAW := Lib.hid (awake16 hP hG)
  obtain ⟨W1, hW1, hb1, hx1⟩ := pkt_laid w p D
  obtain ⟨W2, hW2, hb2, hx2⟩ := pkt_laid W1 q E
  have hsz : W1.heap.size = w.heap.size + 1 := by rw [hW1]; exact World.size_alloc ..
  have HB2 := Lib.hid (hb1.trans (hb2.mono hb1.size))
  have HXP := Lib.hid (hx1.mono hb2)
  have HXQ := Lib.hid hx2
  have HW : Hid ((w.alloc (.cells (pktC p D) 26)).alloc (.cells (pktC q E) 26) = W2) := Lib.hid (by rw [← hW1, ← hW2])
  have HSZ := Lib.hid hsz
  have HDD : Hid (∀ V, Below W2.heap.size W2 V → ListAt byteV V D p.data) := Lib.hid fun V hV => (hD.mono HB2.out).mono hV
  have HEE : Hid (∀ V, Below W2.heap.size W2 V → ListAt byteV V E q.data) := Lib.hid fun V hV => (hE.mono HB2.out).mono hV
  have HPP : Hid (∀ V : World, Below W2.heap.size W2 V → _) := Lib.hid fun V hV => hP V p D (HDD.out V hV) hF
  have HPQ : Hid (∀ V : World, Below W2.heap.size W2 V → _) := Lib.hid fun V hV => hP V q E (HEE.out V hV) hF'
  have HRS : Hid (∀ V : World, Below W2.heap.size W2 V → Calls Try.prog 7 #[.agg (pktC p D), .agg (pktC q E)] V fun e w' => e = .returned (.bool (decide (p = q))) ∧ Below V.heap.size V w') := Lib.hid fun V hV => rSame_any p q D E (HDD.out V hV) (HEE.out V hV) hF.octs hF'.octs
  unfold pktV at HPP HPQ
  unfold pktV
  clear hP hG hW1 hW2 hb1 hb2 hx1 hx2 hsz hD hE
  go_enter Try.func5, Try.ntmps5
  go_upto_region 1 with fail
  rw [HW.out, ← HSZ.out]
  go_wp2_with ((with_reducible show wpList _ _ _ (⟨some 10, _, _, _, _, _⟩ :: _) _ _); refine wpList_load_row rfl 26 (.tmp 2) rfl w.heap.size rfl 26 _ (0, 0) _ HXP.out Try.underlying26 rfl (by kernel_rfl) ?_)
  refine (HPP.out W2 (Below.refl _ _)).mono ?_
  rintro e w3 ⟨hb3, hput⟩
  have HXP3 := Lib.hid (HXP.out.mono hb3)
  have HXQ3 := Lib.hid (HXQ.out.mono hb3)
  have HB3 := Lib.hid hb3
  have HPQ3 := Lib.hid (HPQ.out w3 hb3)
  clear hb3
  obtain ⟨hne, E1, rfl, he1⟩ | ⟨hck, v1, rfl, ho1⟩ := hput
  · obtain ⟨x, y, rfl⟩ := he1.some hne
    clear he1 hne
    go_wp2_with ((with_reducible show wpList _ _ _ (⟨some 15, _, _, _, _, _⟩ :: _) _ _); refine wpList_load_row rfl 26 (.tmp 3) rfl W1.heap.size rfl 26 _ (0, 0) _ HXQ3.out Try.underlying26 rfl (by kernel_rfl) ?_)
    refine HPQ3.out.mono ?_
    rintro e w4 ⟨hb4, hput⟩
    have HB4 := Lib.hid (HB3.out.trans (hb4.mono HB3.out.size))
    clear hb4
    obtain ⟨v2, E2, rfl⟩ : ∃ v2 E2, e = .returned (.tuple #[v2, E2]) := by
      obtain ⟨-, E2, h, -⟩ | ⟨-, v2, h, -⟩ := hput
      · exact ⟨_, _, h⟩
      · exact ⟨_, _, h⟩
    clear hput
    go_wp2_with fail
    refine (HAW.out _).mono ?_
    rintro e w5 ⟨rfl, hb5⟩
    have HB5 := Lib.hid (HB4.out.trans (hb5.mono HB4.out.size))
    clear hb5
    go_wp2
    go_ret
    exact ⟨rfl, HB2.out.trans (HB5.out.mono HB2.out.size)⟩
  · go_wp2_with ((with_reducible show wpList _ _ _ (⟨some 15, _, _, _, _, _⟩ :: _) _ _); refine wpList_load_row rfl 26 (.tmp 3) rfl W1.heap.size rfl 26 _ (0, 0) _ HXQ3.out Try.underlying26 rfl (by kernel_rfl) ?_)
    refine HPQ3.out.mono ?_
    rintro e w4 ⟨hb4, hput⟩
    have HB4 := Lib.hid (HB3.out.trans (hb4.mono HB3.out.size))
    have HXP4 := Lib.hid (HXP3.out.mono hb4)
    have HXQ4 := Lib.hid (HXQ3.out.mono hb4)
    have HL1 := Lib.hid ((ListAt.of_owns (f := byteV) (l := putP p) ho1).mono hb4)
    clear hb4 ho1
    obtain ⟨hne, E2, rfl, he2⟩ | ⟨hck2, v2, rfl, ho2⟩ := hput
    · obtain ⟨x, y, rfl⟩ := he2.some hne
      clear he2 hne
      go_wp2_with fail
      refine (HAW.out _).mono ?_
      rintro e w5 ⟨rfl, hb5⟩
      have HB5 := Lib.hid (HB4.out.trans (hb5.mono HB4.out.size))
      clear hb5
      go_wp2
      go_ret
      exact ⟨rfl, HB2.out.trans (HB5.out.mono HB2.out.size)⟩
    · have hs : ((strN (putP p)).toList == (strN (putP q)).toList) = decide (p = q) := by
        rw [strN_same (putP_octets hF.octs) (putP_octets hF'.octs)]
        exact decide_eq_decide.2 ⟨fun h => putP_inj hck hck2 h, fun h => by rw [h]⟩
      have HBD : Below w4.heap.size w4 w4.drew := (Below.refl _ _).drew
      have HCA : Hid (∀ V, Below w4.heap.size w4 V → (convert 22 9 v1).run Try.prog V = .ok (.string (strN (putP p))) V) := Lib.hid fun V hV => (HL1.out.mono hV).str
      have HCB : Hid (∀ V, Below w4.heap.size w4 V → (convert 22 9 v2).run Try.prog V = .ok (.string (strN (putP q))) V) := Lib.hid fun V hV => ((ListAt.of_owns (f := byteV) (l := putP q) ho2).mono hV).str
      have HRS4 : Hid (∀ V : World, Below w4.heap.size w4 V → Calls Try.prog 7 #[.agg (pktC p D), .agg (pktC q E)] V fun e w' => e = .returned (.bool (decide (p = q))) ∧ Below V.heap.size V w') := Lib.hid fun V hV => HRS.out V (HB4.out.trans (hV.mono HB4.out.size))
      clear ho2 hck hck2
      generalize decide (p = q) = bb at *
      generalize strN (putP p) = sa at *
      generalize strN (putP q) = sb at *
      have hbb : (bb == bb) = true := by simp
      go_upto_region 5 with fail
      refine wp_region_held_drew (S := fun V => Below w4.heap.size w4 V) (by kernel_rfl) HBD (fun _ => ?_)
      (refine wpAnyH_take (i := 0) (v := ?_) rfl (by kernel_rfl) (by kernel_rfl) (by kernel_rfl) (fun _ _ _ h => h) (Or.inl ⟨by rfl, ?_⟩) HBD ?_; rotate_left; (focus (intro V hV; go_simp; first | done | with_reducible rfl)); (try simp only [List.getElem_toArray, List.getElem_cons_succ, List.getElem_cons_zero, Act.put, List.setIfInBounds_toArray, List.set_cons_zero, List.set_cons_succ]); refine wpAnyH_take (i := 2) (v := ?_) rfl (by kernel_rfl) (by kernel_rfl) (by kernel_rfl) (fun _ _ _ h => h) (Or.inl ⟨by rfl, ?_⟩) HBD ?_; rotate_left; (focus (intro V hV; go_simp; first | done | with_reducible rfl)); (try simp only [List.getElem_toArray, List.getElem_cons_succ, List.getElem_cons_zero, Act.put, List.setIfInBounds_toArray, List.set_cons_zero, List.set_cons_succ]); refine wpAnyH_take (i := 1) (v := (.string sa)) rfl (by kernel_rfl) (by kernel_rfl) (by kernel_rfl) (fun _ _ _ h => h) (Or.inl ⟨by rfl, ?_⟩) HBD ?_; (focus (intro V hV; exact exec_conv 22 9 (.tmp 26) (by rfl) _ (by rfl) (HCA.out V hV))); (try simp only [List.getElem_toArray, List.getElem_cons_succ, List.getElem_cons_zero, Act.put, List.setIfInBounds_toArray, List.set_cons_zero, List.set_cons_succ]); refine wpAnyH_take (i := 3) (v := (.string sb)) rfl (by kernel_rfl) (by kernel_rfl) (by kernel_rfl) (fun _ _ _ h => h) (Or.inl ⟨by rfl, ?_⟩) HBD ?_; (focus (intro V hV; exact exec_conv 22 9 (.tmp 28) (by rfl) _ (by rfl) (HCB.out V hV))); (try simp only [List.getElem_toArray, List.getElem_cons_succ, List.getElem_cons_zero, Act.put, List.setIfInBounds_toArray, List.set_cons_zero, List.set_cons_succ]); refine wpAnyH_take (i := 4) (v := ?_) rfl (by kernel_rfl) (by kernel_rfl) (by kernel_rfl) (fun _ _ _ h => h) (Or.inl ⟨by rfl, ?_⟩) HBD ?_; rotate_left; (focus (intro V hV; go_simp; first | done | with_reducible rfl)); (try simp only [List.getElem_toArray, List.getElem_cons_succ, List.getElem_cons_zero, Act.put, List.setIfInBounds_toArray, List.set_cons_zero, List.set_cons_succ]); refine wpAnyH_take (i := 5) (v := (.agg (pktC p D))) rfl (by kernel_rfl) (by kernel_rfl) (by kernel_rfl) (fun _ _ _ h => h) (Or.inl ⟨by rfl, ?_⟩) HBD ?_; (focus (intro V hV; exact exec_loadRow 26 (.tmp 2) (by rfl) w.heap.size (by rfl) 26 (0, 0) _ (HXP4.out.mono hV) Try.underlying26 rfl (by kernel_rfl))); (try simp only [List.getElem_toArray, List.getElem_cons_succ, List.getElem_cons_zero, Act.put, List.setIfInBounds_toArray, List.set_cons_zero, List.set_cons_succ]); refine wpAnyH_take (i := 6) (v := (.agg (pktC q E))) rfl (by kernel_rfl) (by kernel_rfl) (by kernel_rfl) (fun _ _ _ h => h) (Or.inl ⟨by rfl, ?_⟩) HBD ?_; (focus (intro V hV; exact exec_loadRow 26 (.tmp 3) (by rfl) W1.heap.size (by rfl) 26 (0, 0) _ (HXQ4.out.mono hV) Try.underlying26 rfl (by kernel_rfl))); (try simp only [List.getElem_toArray, List.getElem_cons_succ, List.getElem_cons_zero, Act.put, List.setIfInBounds_toArray, List.set_cons_zero, List.set_cons_succ]); refine wpAnyH_ready (rs := [7]) (by kernel_rfl) (by simp) ?_; refine AllReadyH.cons rfl (fun K hK => ?_) (AllReadyH.nil); go_simp; go_at_call 7; (with_reducible refine (HRS4.out _ HBD).mono ?_); rintro e w5 ⟨rfl, hb⟩; have HB5 : Below w4.heap.size w4 w5 := Below.trans HBD (hb.mono (Below.size HBD)); clear hb; refine Shut.out hK _ _ HB5 (fun _ => ?_); clear hK K; (try simp only [List.getElem_toArray, List.getElem_cons_succ, List.getElem_cons_zero, Act.put, List.setIfInBounds_toArray, List.set_cons_zero, List.set_cons_succ]); refine wpAnyH_take (i := 8) (v := ?_) rfl (by kernel_rfl) (by kernel_rfl) (by kernel_rfl) (fun _ _ _ h => h) (Or.inl ⟨by rfl, ?_⟩) HB5 ?_; rotate_left; (focus (intro V hV; go_simp; first | done | with_reducible rfl)); (try simp only [List.getElem_toArray, List.getElem_cons_succ, List.getElem_cons_zero, Act.put, List.setIfInBounds_toArray, List.set_cons_zero, List.set_cons_succ]); refine wpAnyH_take (i := 9) (v := ?_) rfl (by kernel_rfl) (by kernel_rfl) (by kernel_rfl) (fun _ _ _ h => h) (Or.inl ⟨by rfl, ?_⟩) HB5 ?_; rotate_left; (focus (intro V hV; go_simp; first | done | with_reducible rfl)); (try simp only [List.getElem_toArray, List.getElem_cons_succ, List.getElem_cons_zero, Act.put, List.setIfInBounds_toArray, List.set_cons_zero, List.set_cons_succ]); refine wpAnyH_ready (rs := [10]) (by kernel_rfl) (by simp) ?_; refine AllReadyH.cons rfl (fun K hK => ?_) (AllReadyH.nil); go_simp; go_at_call 9; (with_reducible refine (HAW.out _).mono ?_); rintro e w6 ⟨rfl, hb⟩; have HB6 : Below w4.heap.size w4 w6 := Below.trans HB5 (hb.mono (Below.size HB5)); clear hb; refine Shut.out hK _ _ HB6 (fun _ => ?_); clear hK K; (try simp only [List.getElem_toArray, List.getElem_cons_succ, List.getElem_cons_zero, Act.put, List.setIfInBounds_toArray, List.set_cons_zero, List.set_cons_succ]); refine wpAnyH_take (i := 11) (v := ?_) rfl (by kernel_rfl) (by kernel_rfl) (by kernel_rfl) (fun _ _ _ h => h) (Or.inl ⟨by rfl, ?_⟩) HB6 ?_; rotate_left; (focus (intro V hV; go_simp; first | done | with_reducible rfl)); (try simp only [List.getElem_toArray, List.getElem_cons_succ, List.getElem_cons_zero, Act.put, List.setIfInBounds_toArray, List.set_cons_zero, List.set_cons_succ]); refine wpAnyH_take (i := 12) (v := ?_) rfl (by kernel_rfl) (by kernel_rfl) (by kernel_rfl) (fun _ _ _ h => h) (Or.inl ⟨by rfl, ?_⟩) HB6 ?_; rotate_left; (focus (intro V hV; go_simp; first | done | with_reducible rfl)); (try simp only [List.getElem_toArray, List.getElem_cons_succ, List.getElem_cons_zero, Act.put, List.setIfInBounds_toArray, List.set_cons_zero, List.set_cons_succ]))
      all_goals refine wpAnyH_done (by kernel_rfl) ?_ _
      all_goals
        go_wp2
        go_ret
        exact ⟨rfl, HB2.out.trans ((Below.trans HB4.out (HB6.mono HB4.out.size)).mono HB2.out.size)⟩
end Go.Proofs.Ytmihpbdgilmdiaa
