/- The fifteenth layer's law CheckAdds. -/
import Derived.Test.YtccnkfblhkncoaaLaw15
import Derived.Laws.AppendOwnNone
namespace Go.Proofs.Ytccnkfblhkncoaa
open Go.RowKit Go.Extern.Stop Go.Stop Go.Extern

/-- Take of Add: the bytes (P15.3). -/
theorem ckTake_add (hT : CkTakeC) (l : List Nat) (ho : Octets l) (hR : l.length ≤ 140737488351232) (V : World) (v : Value) (hv : ListAt byteV V v (l ++ le4 (crcSum l))) :
    Calls Try.prog 9 #[v] V fun e w' => ∃ v1, e = .returned (.tuple #[v1, .nilIface]) ∧ ListAt byteV w' v1 l ∧ Below V.heap.size V w' := by
  have hl : (l ++ le4 (crcSum l)).length = l.length + 4 := by rw [List.length_append, le4_length]
  have hoS : Octets (l ++ le4 (crcSum l)) := fun x hx => by
    rcases List.mem_append.1 hx with h | h
    · exact ho x h
    · exact le4_octets _ x h
  refine (hT V v _ hv hoS (by omega)).mono ?_
  rintro e w' ⟨hb, ⟨h, -⟩ | ⟨-, h, -⟩ | ⟨-, -, v1, rfl, h⟩⟩
  · omega
  · exact absurd (wholeS_add l) h
  · rw [show (l ++ le4 (crcSum l)).length - 4 = l.length by omega, List.take_left'] at h
    · exact ⟨v1, rfl, ListAt.of_owns h, hb⟩
    · rfl

set_option linter.unusedSimpArgs false in
set_option maxRecDepth 1000000 in
set_option maxHeartbeats 4000000 in
theorem adds15 (hS : CkSumC) (hA : CkAddC) (hT : CkTakeC) {w : World} (v : Value) (l : List Nat) (h : ListAt byteV w v l) (ho : Octets l) (hR : l.length * 1 ≤ reachBytes) :
    Calls Try.prog 4 #[v] w fun e w' => e = .returned (.bool true) ∧ Below w.heap.size w w' := by
  obtain ⟨j0, hj0, jz0, jz1, jz2⟩ := info_parts info_u8
  have hR2 : l.length ≤ 140737488351232 := by unfold reachBytes at hR; omega
  have hlen := h.len
  have HA := Lib.hid fun (V : World) (v' : Value) (hv : ListAt byteV V v' l) => hA V v' l hv ho hR2
  have HD := Lib.hid fun (V : World) (v' : Value) (hv : ListAt byteV V v' l) => ckAdd_any v' l hv ho hR2
  have HT := Lib.hid (ckTake_add hT l ho hR2)
  have HAW := Lib.hid (awake15 hS hT)
  have HOC := Lib.hid ho
  have HL := Lib.hid h
  have hw16 : IntKind.i64.wrap ((l.length : Int) + 16) = (l.length : Int) + 16 := IntWalk.i64_in _ (by omega)
  have HSL : Hid ((l ++ le4 (crcSum l)).length = l.length + 4) := Lib.hid (by rw [List.length_append, le4_length])
  obtain ⟨a, cap, rfl, -, -, -⟩ := h
  clear hS hA hT ho hR
  generalize l ++ le4 (crcSum l) = S at *
  go_enter Try.func4, Try.ntmps4
  go_wp2_with (first
    | (at_make; refine wpList_make_own _ rfl _ _ 23 rfl w.heap.size 5 j0 (.int .u8 0) 1 Try.underlying23 hj0 jz0 jz1 .i64 .i64 _ (l.length + 16) rfl rfl (by push_cast; rfl) (by rw [jz2]; omega) (by unfold maxLen; omega) (Nat.le_refl _) ?_; intro w0 ho0 hg0; have HB0 := Lib.hid ((Below.refl w.heap.size w).grown hg0 (Nat.le_refl _) (fun k hk => by cases hk)); have HOS := Lib.hid ho0; have HLe := Lib.hid (HL.out.mono HB0.out); clear ho0 hg0)
    | (at_builtin; refine wpList_append_of _ rfl (.tmp 11) (.tmp 12) 23 rfl w.heap.size 5 j0 (.int .u8 0) 1 Try.underlying23 hj0 jz0 jz1 jz2 rfl (.slice (some ⟨w.heap.size, 0, none⟩) 0 (l.length + 16)) 0 [] rfl HOS.out (.slice a l.length cap) l rfl HLe.out (fun y _ => rfl) (by unfold maxLen; omega) (by omega) (by have := HB0.out.size; omega) ?_; intro v5 w1 ho1 hg1; have HO1 := Lib.hid (show w1.ownsRow w.heap.size 5 1 v5 l.length (l.map byteV) by simpa using ho1); have HB1 := Lib.hid (HB0.out.grown hg1 HB0.out.size (fun k hk => (HOS.out.lt k hk).1)); clear ho1 hg1))
  have hl1 : ListAt byteV w1 v5 l := ListAt.of_owns HO1.out
  refine (HA.out w1 v5 hl1).mono ?_
  rintro e w2 ⟨vq, rfl, hq, hb2⟩
  obtain ⟨ao, co, rfl, hco, hao⟩ := own_open HO1.out
  have HAO := Lib.hid hao
  have HB2 := Lib.hid (HB1.out.trans (hb2.mono HB1.out.size))
  have HO2 := Lib.hid (owns_kept HO1.out hb2)
  have HV2 := Lib.hid hq
  clear hl1 hb2 hq hao
  go_wp2_with fail
  go_loopw [5] (fun i wr => ∃ (k : Nat) (R : List Nat), k ≤ l.length ∧ i = .int .i64 (k : Int) ∧ R.length = l.length ∧ Octets R ∧ wr.ownsRow w.heap.size 5 1 (.slice ao l.length co) l.length (R.map byteV) ∧ w2.grownBy wr (Value.slice ao l.length co).ownBlock ∧ (l.length = 0 → w2 = wr)) (fun i _ => l.length - (intOf i).toNat)
  case atStart => exact ⟨0, l, by omega, rfl, rfl, HOC.out, HO2.out, World.grownBy.refl _ _, fun _ => rfl⟩
  case round =>
    obtain ⟨k, R, hk, rfl, hRl, hRo, hown, hgr, hz0⟩ := hrel
    by_cases hlt : k < l.length
    · obtain ⟨g, rfl⟩ := HAO.out (by omega)
      have d2 : decide ((k : Int) < (l.length : Int)) = true := decide_eq_true (by omega)
      have hcell := hown.cellAt k (by omega)
      have hx : R.getD k 0 < 256 := hRo.getD k
      have hcell' : wr.cell? ⟨g, k, none⟩ = some (.int .u8 ((R.getD k 0 : Nat) : Int)) := by
        rw [hcell]
        have : k < R.length := by omega
        simp [byteV, List.getD_eq_getElem?_getD, this]
      have hfr : wr.frozen? ⟨g, k, none⟩ = false := hown.frozenAt k
      have HST : Hid ((wr.setCell ⟨g, k, none⟩ (.int .u8 ((255 - R.getD k 0 : Nat) : Int))).ownsRow w.heap.size 5 1 (.slice (some ⟨g, 0, none⟩) l.length co) l.length ((R.set k (255 - R.getD k 0)).map byteV) ∧ w2.grownBy (wr.setCell ⟨g, k, none⟩ (.int .u8 ((255 - R.getD k 0 : Nat) : Int))) (Value.slice (some ⟨g, 0, none⟩) l.length co).ownBlock) := Lib.hid (by
        obtain ⟨h1, h2⟩ := hown.stored k (byteV (255 - R.getD k 0))
        refine ⟨?_, grown_trans hgr h2⟩
        rw [List.map_set]
        exact h1)
      have HRS : Hid (Octets (R.set k (255 - R.getD k 0)) ∧ (R.set k (255 - R.getD k 0)).length = l.length) := Lib.hid ⟨hRo.set k _ (by omega), by rw [List.length_set]; exact hRl⟩
      clear hcell hown hgr hRo hRl
      generalize R.getD k 0 = x at *
      have hsub : (255 : Int) - (x : Int) = ((255 - x : Nat) : Int) := by omega
      have hy : 255 - x < 256 := by omega
      generalize 255 - x = y at *
      go_wp2
      exact ⟨⟨k + 1, R.set k y, hlt, by go_num, HRS.out.2, HRS.out.1, HST.out.1, HST.out.2, fun h => by omega⟩, by simp [intOf]; omega⟩
    · obtain rfl : k = l.length := by omega
      have d2 : decide ((l.length : Int) < (l.length : Int)) = false := decide_eq_false (by omega)
      have HB3 := Lib.hid (HB2.out.grown hgr HB2.out.size (fun j hj => (HO2.out.lt j hj).1))
      have hv3 := HV2.out.kept hgr (by
        by_cases hn : vq.ownBlock = none
        · exact .inl hn
        · refine .inr fun e => ?_
          rcases hq : vq.ownBlock with _ | q
          · exact hn hq
          · have h1 := (HV2.out.lt q hq).1
            have h2 := (HO1.out.lt q (by rw [← e, hq])).2
            omega)
      rw [← HSL.out] at hv3
      have HV3 := Lib.hid (ListAt.of_owns (f := byteV) (l := S) hv3)
      clear hown hgr hz0 hv3
      go_wp2_with fail
      refine (HT.out _ _ HV3.out).mono ?_
      rintro e w4 ⟨vb, rfl, hlb, hb4⟩
      have HB4 := Lib.hid (HB3.out.trans (hb4.mono HB3.out.size))
      have HQ4 := Lib.hid (HV3.out.mono hb4)
      have HP4 := Lib.hid (HL.out.mono HB4.out)
      have HBB4 := Lib.hid hlb
      clear hlb hb4
      have hbd : Below w4.heap.size w4 w4.drew := (Below.refl _ _).drew
      have HBD := Lib.hid hbd
      have HADD := Lib.hid (HD.out w4.drew _ (HP4.out.mono hbd))
      have hqd := (HQ4.out.mono hbd).str
      have HCONV : Hid (∀ V, Below w4.heap.size w4 V → (convert 23 9 vq).run Try.prog V = .ok (.string (strN S)) V ∧ (convert 23 9 vb).run Try.prog V = .ok (.string (strN l)) V ∧ (convert 23 9 (.slice a l.length cap)).run Try.prog V = .ok (.string (strN l)) V) := Lib.hid fun V hV => ⟨(HQ4.out.mono hV).str, (HBB4.out.mono hV).str, (HP4.out.mono hV).str⟩
      obtain ⟨bq, cq, rfl, -, -, -⟩ := HQ4.out
      obtain ⟨bb, cb, rfl, -, -, -⟩ := HBB4.out
      have HSS : Hid (∀ (V : World) (v' : Value), ListAt byteV V v' S → (convert 23 9 v').run Try.prog V = .ok (.string (strN S)) V) := Lib.hid fun V v' hv => hv.str
      clear hbd
      generalize strN S = sS at *
      generalize strN l = sl at *
      go_upto_region 8 with fail
      refine wp_region_any (by kernel_rfl) ?_
      change wpAny _ _ _ _ _ _ _ (World.drew _)
      refine wpAny_take (i := 0) (v := ?_) rfl (by kernel_rfl) (by kernel_rfl) (by kernel_rfl) (fun _ _ _ h => h) (Or.inl ⟨by rfl, ?_⟩) ?_
      rotate_left
      focus (intro w; go_simp; first | done | with_reducible rfl)
      (try simp only [List.getElem_toArray, List.getElem_cons_succ, List.getElem_cons_zero, Act.put, List.setIfInBounds_toArray, List.set_cons_zero, List.set_cons_succ])
      refine wpAny_take (i := 2) (v := ?_) rfl (by kernel_rfl) (by kernel_rfl) (by kernel_rfl) (fun _ _ _ h => h) (Or.inl ⟨by rfl, ?_⟩) ?_
      rotate_left
      focus (intro w; go_simp; first | done | with_reducible rfl)
      (try simp only [List.getElem_toArray, List.getElem_cons_succ, List.getElem_cons_zero, Act.put, List.setIfInBounds_toArray, List.set_cons_zero, List.set_cons_succ])
      refine wpAny_ready (rs := [1, 3]) (by kernel_rfl) (by simp) ?_
      refine AllReady.cons rfl (fun K hK => ?_) (AllReady.cons rfl (fun K hK => ?_) AllReady.nil)
      focus (go_simp; refine hK _ _ ?_; clear hK K; (try simp only [List.getElem_toArray, List.getElem_cons_succ, List.getElem_cons_zero, Act.put, List.setIfInBounds_toArray, List.set_cons_zero, List.set_cons_succ]); (refine wpAny_ready (rs := [3]) (by kernel_rfl) (by simp) ?_; refine AllReady.cons rfl (fun K hK => ?_) AllReady.nil; (go_simp; go_at_call 10; (with_reducible refine HADD.out.mono ?_); rintro e w5 ⟨v5, rfl, ho5, hb5⟩; have HB5 := Lib.hid (HBD.out.trans (hb5.mono HBD.out.size)); have hc5 := HSS.out _ _ (ListAt.of_owns (f := byteV) (l := S) (show w5.ownsRow w4.drew.heap.size 5 1 v5 S.length (S.map byteV) by rw [HSL.out]; exact ho5)); obtain ⟨hc1, hc2, hc3⟩ := HCONV.out _ HB5.out; clear ho5 hb5); refine hK _ _ ?_; clear hK K; (try simp only [List.getElem_toArray, List.getElem_cons_succ, List.getElem_cons_zero, Act.put, List.setIfInBounds_toArray, List.set_cons_zero, List.set_cons_succ])); (refine wpAny_ready (rs := [4]) (by kernel_rfl) (by simp) ?_; refine AllReady.cons rfl (fun K hK => ?_) AllReady.nil; go_simp; refine hK _ _ ?_; clear hK K; (try simp only [List.getElem_toArray, List.getElem_cons_succ, List.getElem_cons_zero, Act.put, List.setIfInBounds_toArray, List.set_cons_zero, List.set_cons_succ])))
      rotate_left
      focus ((go_simp; go_at_call 10; (with_reducible refine HADD.out.mono ?_); rintro e w5 ⟨v5, rfl, ho5, hb5⟩; have HB5 := Lib.hid (HBD.out.trans (hb5.mono HBD.out.size)); have hc5 := HSS.out _ _ (ListAt.of_owns (f := byteV) (l := S) (show w5.ownsRow w4.drew.heap.size 5 1 v5 S.length (S.map byteV) by rw [HSL.out]; exact ho5)); obtain ⟨hc1, hc2, hc3⟩ := HCONV.out _ HB5.out; clear ho5 hb5); refine hK _ _ ?_; clear hK K; (try simp only [List.getElem_toArray, List.getElem_cons_succ, List.getElem_cons_zero, Act.put, List.setIfInBounds_toArray, List.set_cons_zero, List.set_cons_succ]); refine wpAny_ready (rs := [1, 4]) (by kernel_rfl) (by simp) ?_; refine AllReady.cons rfl (fun K hK => ?_) (AllReady.cons rfl (fun K hK => ?_) AllReady.nil); (focus (go_simp; refine hK _ _ ?_; clear hK K; (try simp only [List.getElem_toArray, List.getElem_cons_succ, List.getElem_cons_zero, Act.put, List.setIfInBounds_toArray, List.set_cons_zero, List.set_cons_succ]); (refine wpAny_ready (rs := [4]) (by kernel_rfl) (by simp) ?_; refine AllReady.cons rfl (fun K hK => ?_) AllReady.nil; go_simp; refine hK _ _ ?_; clear hK K; (try simp only [List.getElem_toArray, List.getElem_cons_succ, List.getElem_cons_zero, Act.put, List.setIfInBounds_toArray, List.set_cons_zero, List.set_cons_succ])))); rotate_left; (focus (go_simp; refine hK _ _ ?_; clear hK K; (try simp only [List.getElem_toArray, List.getElem_cons_succ, List.getElem_cons_zero, Act.put, List.setIfInBounds_toArray, List.set_cons_zero, List.set_cons_succ]); (refine wpAny_ready (rs := [1]) (by kernel_rfl) (by simp) ?_; refine AllReady.cons rfl (fun K hK => ?_) AllReady.nil; go_simp; refine hK _ _ ?_; clear hK K; (try simp only [List.getElem_toArray, List.getElem_cons_succ, List.getElem_cons_zero, Act.put, List.setIfInBounds_toArray, List.set_cons_zero, List.set_cons_succ])))))
      all_goals
        refine wpAny_take (i := 5) (v := ?_) rfl (by kernel_rfl) (by kernel_rfl) (by kernel_rfl) (fun _ _ _ h => h) (Or.inl ⟨by rfl, ?_⟩) ?_
        rotate_left
        focus (intro w; go_simp; first | done | with_reducible rfl)
        (try simp only [List.getElem_toArray, List.getElem_cons_succ, List.getElem_cons_zero, Act.put, List.setIfInBounds_toArray, List.set_cons_zero, List.set_cons_succ])
        refine wpAny_take (i := 6) (v := ?_) rfl (by kernel_rfl) (by kernel_rfl) (by kernel_rfl) (fun _ _ _ h => h) (Or.inl ⟨by rfl, ?_⟩) ?_
        rotate_left
        focus (intro w; go_simp; first | done | with_reducible rfl)
        (try simp only [List.getElem_toArray, List.getElem_cons_succ, List.getElem_cons_zero, Act.put, List.setIfInBounds_toArray, List.set_cons_zero, List.set_cons_succ])
        refine wpAny_take (i := 7) (v := ?_) rfl (by kernel_rfl) (by kernel_rfl) (by kernel_rfl) (fun _ _ _ h => h) (Or.inl ⟨by rfl, ?_⟩) ?_
        rotate_left
        focus (intro w; go_simp; first | done | with_reducible rfl)
        (try simp only [List.getElem_toArray, List.getElem_cons_succ, List.getElem_cons_zero, Act.put, List.setIfInBounds_toArray, List.set_cons_zero, List.set_cons_succ])
        refine wpAny_take (i := 8) (v := ?_) rfl (by kernel_rfl) (by kernel_rfl) (by kernel_rfl) (fun _ _ _ h => h) (Or.inl ⟨by rfl, ?_⟩) ?_
        rotate_left
        focus (intro w; go_simp; first | done | with_reducible rfl)
        (try simp only [List.getElem_toArray, List.getElem_cons_succ, List.getElem_cons_zero, Act.put, List.setIfInBounds_toArray, List.set_cons_zero, List.set_cons_succ])
        refine wpAny_take (i := 9) (v := ?_) rfl (by kernel_rfl) (by kernel_rfl) (by kernel_rfl) (fun _ _ _ h => h) (Or.inl ⟨by rfl, ?_⟩) ?_
        rotate_left
        focus (intro w; go_simp; first | done | with_reducible rfl)
        (try simp only [List.getElem_toArray, List.getElem_cons_succ, List.getElem_cons_zero, Act.put, List.setIfInBounds_toArray, List.set_cons_zero, List.set_cons_succ])
        refine wpAny_take (i := 10) (v := ?_) rfl (by kernel_rfl) (by kernel_rfl) (by kernel_rfl) (fun _ _ _ h => h) (Or.inl ⟨by rfl, ?_⟩) ?_
        rotate_left
        focus (intro w; go_simp; first | done | with_reducible rfl)
        (try simp only [List.getElem_toArray, List.getElem_cons_succ, List.getElem_cons_zero, Act.put, List.setIfInBounds_toArray, List.set_cons_zero, List.set_cons_succ])
        refine wpAny_take (i := 11) (v := ?_) rfl (by kernel_rfl) (by kernel_rfl) (by kernel_rfl) (fun _ _ _ h => h) (Or.inl ⟨by rfl, ?_⟩) ?_
        rotate_left
        focus (intro w; go_simp; first | done | with_reducible rfl)
        (try simp only [List.getElem_toArray, List.getElem_cons_succ, List.getElem_cons_zero, Act.put, List.setIfInBounds_toArray, List.set_cons_zero, List.set_cons_succ])
        refine wpAny_take (i := 13) (v := ?_) rfl (by kernel_rfl) (by kernel_rfl) (by kernel_rfl) (fun _ _ _ h => h) (Or.inl ⟨by rfl, ?_⟩) ?_
        rotate_left
        focus (intro w; go_simp; first | done | with_reducible rfl)
        (try simp only [List.getElem_toArray, List.getElem_cons_succ, List.getElem_cons_zero, Act.put, List.setIfInBounds_toArray, List.set_cons_zero, List.set_cons_succ])
        refine wpAny_ready (rs := [12, 14]) (by kernel_rfl) (by simp) ?_
        refine AllReady.cons rfl (fun K hK => ?_) (AllReady.cons rfl (fun K hK => ?_) AllReady.nil)
        focus (go_simp; refine hK _ _ ?_; clear hK K; (try simp only [List.getElem_toArray, List.getElem_cons_succ, List.getElem_cons_zero, Act.put, List.setIfInBounds_toArray, List.set_cons_zero, List.set_cons_succ]); (refine wpAny_ready (rs := [14]) (by kernel_rfl) (by simp) ?_; refine AllReady.cons rfl (fun K hK => ?_) AllReady.nil; go_simp; refine hK _ _ ?_; clear hK K; (try simp only [List.getElem_toArray, List.getElem_cons_succ, List.getElem_cons_zero, Act.put, List.setIfInBounds_toArray, List.set_cons_zero, List.set_cons_succ])))
        rotate_left
        focus (go_simp; refine hK _ _ ?_; clear hK K; (try simp only [List.getElem_toArray, List.getElem_cons_succ, List.getElem_cons_zero, Act.put, List.setIfInBounds_toArray, List.set_cons_zero, List.set_cons_succ]); (refine wpAny_ready (rs := [12]) (by kernel_rfl) (by simp) ?_; refine AllReady.cons rfl (fun K hK => ?_) AllReady.nil; go_simp; refine hK _ _ ?_; clear hK K; (try simp only [List.getElem_toArray, List.getElem_cons_succ, List.getElem_cons_zero, Act.put, List.setIfInBounds_toArray, List.set_cons_zero, List.set_cons_succ])))
        all_goals
          refine wpAny_take (i := 15) (v := ?_) rfl (by kernel_rfl) (by kernel_rfl) (by kernel_rfl) (fun _ _ _ h => h) (Or.inl ⟨by rfl, ?_⟩) ?_
          rotate_left
          focus (intro w; go_simp; first | done | with_reducible rfl)
          (try simp only [List.getElem_toArray, List.getElem_cons_succ, List.getElem_cons_zero, Act.put, List.setIfInBounds_toArray, List.set_cons_zero, List.set_cons_succ])
          refine wpAny_take (i := 16) (v := ?_) rfl (by kernel_rfl) (by kernel_rfl) (by kernel_rfl) (fun _ _ _ h => h) (Or.inl ⟨by rfl, ?_⟩) ?_
          rotate_left
          focus (intro w; go_simp; first | done | with_reducible rfl)
          (try simp only [List.getElem_toArray, List.getElem_cons_succ, List.getElem_cons_zero, Act.put, List.setIfInBounds_toArray, List.set_cons_zero, List.set_cons_succ])
          refine wpAny_take (i := 17) (v := ?_) rfl (by kernel_rfl) (by kernel_rfl) (by kernel_rfl) (fun _ _ _ h => h) (Or.inl ⟨by rfl, ?_⟩) ?_
          rotate_left
          focus (intro w; go_simp; first | done | with_reducible rfl)
          (try simp only [List.getElem_toArray, List.getElem_cons_succ, List.getElem_cons_zero, Act.put, List.setIfInBounds_toArray, List.set_cons_zero, List.set_cons_succ])
          refine wpAny_ready (rs := [18]) (by kernel_rfl) (by simp) ?_
          refine AllReady.cons rfl (fun K hK => ?_) AllReady.nil
          ((go_simp; go_at_call 7; (with_reducible refine (HAW.out _).mono ?_); rintro e w6 ⟨rfl, hb6⟩; have HB6 := Lib.hid (HB5.out.trans (hb6.mono HB5.out.size)); clear hb6); refine hK _ _ ?_; clear hK K; (try simp only [List.getElem_toArray, List.getElem_cons_succ, List.getElem_cons_zero, Act.put, List.setIfInBounds_toArray, List.set_cons_zero, List.set_cons_succ]))
          refine wpAny_take (i := 19) (v := ?_) rfl (by kernel_rfl) (by kernel_rfl) (by kernel_rfl) (fun _ _ _ h => h) (Or.inl ⟨by rfl, ?_⟩) ?_
          rotate_left
          focus (intro w; go_simp; first | done | with_reducible rfl)
          (try simp only [List.getElem_toArray, List.getElem_cons_succ, List.getElem_cons_zero, Act.put, List.setIfInBounds_toArray, List.set_cons_zero, List.set_cons_succ])
          refine wpAny_take (i := 20) (v := ?_) rfl (by kernel_rfl) (by kernel_rfl) (by kernel_rfl) (fun _ _ _ h => h) (Or.inl ⟨by rfl, ?_⟩) ?_
          rotate_left
          focus (intro w; go_simp; first | done | with_reducible rfl)
          (try simp only [List.getElem_toArray, List.getElem_cons_succ, List.getElem_cons_zero, Act.put, List.setIfInBounds_toArray, List.set_cons_zero, List.set_cons_succ])
          refine wpAny_done (by kernel_rfl) ?_ _
      all_goals
        go_wp2
        go_ret
        exact ⟨rfl, HB4.out.trans (HB6.out.mono HB4.out.size)⟩
end Go.Proofs.Ytccnkfblhkncoaa
