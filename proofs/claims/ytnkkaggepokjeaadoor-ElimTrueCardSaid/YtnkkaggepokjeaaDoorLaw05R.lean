/- ElimRanks: the walk. -/
import Derived.Test.YtnkkaggepokjeaaDoorJoinB
import Derived.Deep.RegionHeld3
namespace Go.Proofs.YtnkkaggepokjeaaDoor
open Go.RowKit Go.Extern.Stop Go.Stop Go.Extern

theorem grown_heap {w w' : World} {B n g : Nat} {e t : TypeId} {v : Value} {xs : List Value} {cur : Array Value} {z : Nat × Nat} (hgg : w.heap[g]? = some (Obj.cells cur t z)) (ho : w.ownsRow B e 1 v n xs) (hg : w.grownBy w' v.ownBlock) (hne : t ≠ e) : w'.heap[g]? = w.heap[g]? :=
  hg.block g (Array.getElem?_eq_some_iff.1 hgg).1 fun eq => by
    rcases ho.2 with ⟨rfl, _⟩ | ⟨g', cap, cur', rfl, _, hg', _⟩
    · simp [Value.ownBlock] at eq
    · have : g = g' := by simpa [Value.ownBlock] using eq
      rw [this, hg'] at hgg
      simp at hgg
      exact hne hgg.2.1.symm
section
variable {w wr w' : World} {size : Nat} {u1 u2 : Value} {S : List (List Nat)} {Q : List Nat} {B n0 : Nat} {e : TypeId} {v : Value} {xs : List Value}
theorem LawW.grown (h : LawW w wr size u1 u2 S Q) (ho : wr.ownsRow B e 1 v n0 xs) (hg : wr.grownBy w' v.ownBlock) (hB : w.heap.size ≤ B) (he : e = 38) : LawW w w' size u1 u2 S Q := by
  subst he
  exact ⟨h.bel.grown hg (Nat.le_of_lt h.lt) (fun k hk => Nat.le_trans hB (ho.lt k hk).1), (grown_heap h.box ho hg (by decide)).trans h.box, h.syms.grown ho hg (by decide), own_grown_ne h.rows ho hg (by decide)⟩
theorem Sys.grown {b n sz r kb : Nat} {K : List Vec} {cl : Bool} (h : Sys wr b n sz K r cl kb) (ho : wr.ownsRow B e 1 v n0 xs) (hg : wr.grownBy w' v.ownBlock) (he : e = 38) : Sys w' b n sz K r cl kb := by
  subst he
  obtain ⟨f, rv, sv, h1, h2⟩ := h
  obtain ⟨cur, hk⟩ := h1.kobj
  exact ⟨f, rv, sv, h1.same (grown_heap h1.obj ho hg (by decide)) (grown_heap hk ho hg (by decide)) fun g t cur ht hgg => grown_heap hgg ho hg (by rcases ht with rfl | rfl <;> decide), h2⟩
theorem matOwn_keep {L : List (List Nat)} {base : Nat} (h : MatOwn wordV 47 base 38 wr v L) (hlow : ∀ g, g < base → w'.heap[g]? = wr.heap[g]?) (ht : ∀ (g : Nat) (t : TypeId) (cur : Array Value), t = 47 ∨ t = 38 → wr.heap[g]? = some (Obj.cells cur t (0, 0)) → w'.heap[g]? = wr.heap[g]?) : MatOwn wordV 47 base 38 w' v L := by
  obtain ⟨vs, h1, h2⟩ := h
  refine ⟨vs, own_same h1 fun g cur hg => ht g _ cur (.inr rfl) hg, fun i => ?_⟩
  obtain ⟨⟨a, cap, e1, k1, k2, k3⟩, k4⟩ := h2 i
  by_cases hp : 0 < (L.getD i []).length
  · obtain ⟨b, off, rfl, hc⟩ := k3 hp
    have hsame : w'.heap[b]? = wr.heap[b]? := by
      rcases k4 hp b (by rw [e1]; rfl) with hl | ⟨cur, hcur⟩
      · exact hlow b hl
      · exact ht b _ cur (.inl rfl) hcur
    refine ⟨⟨_, cap, e1, k1, k2, fun _ => ⟨b, off, rfl, fun j hj => (World.cell?_of_block (w := wr) (a := ⟨b, off + j, none⟩) hsame).trans (hc j hj)⟩⟩, fun _ b' hb' => ?_⟩
    have : b = b' := by rw [e1] at hb'; simpa [Value.ownBlock] using hb'
    subst this
    rw [hsame]
    exact k4 hp b (by rw [e1]; rfl)
  · exact ⟨⟨a, cap, e1, k1, k2, fun hp' => absurd hp' hp⟩, fun hp' => absurd hp' hp⟩
theorem matOwn_touch {L : List (List Nat)} {base b n sz r kb : Nat} {K : List Vec} {cl : Bool} (h : MatOwn wordV 47 base 38 wr v L) (hs : Sys wr b n sz K r cl kb) (ht : Touch b kb wr w') (hb : base ≤ b) (hk : base ≤ kb) (hbz : base ≤ wr.heap.size) : MatOwn wordV 47 base 38 w' v L :=
  matOwn_keep h (fun g hg => ht.block g (by omega) (by omega) (by omega)) fun g t cur htt hg => by
    obtain ⟨f, rv, sv, h1, h2⟩ := hs
    obtain ⟨cur', hk'⟩ := h1.kobj
    refine ht.block g (Array.getElem?_eq_some_iff.1 hg).1 (fun e1 => ?_) (fun e1 => ?_)
    · have := h1.obj
      rw [← e1, hg] at this
      rcases htt with rfl | rfl <;> simp at this
    · rw [← e1, hg] at hk'
      rcases htt with rfl | rfl <;> simp at hk'
end
theorem rkQ_nil : rkQ [] = 0 := by
  have := rk_le_length (vecs (rowsQ []))
  unfold rkQ
  simpa [rowsQ, vecs] using this
theorem rowsQ_ok {S : List (List Nat)} {Q : List Nat} (hp : 1 ≤ S.length) (hm : S.length ≤ 12) (hQ : ∀ q ∈ Q, q < 2 ^ S.length) (hl : Q.length ≤ 4096) : MatOk (rowsQ Q) S.length := by
  refine ⟨by omega, by simp [rowsQ]; exact hl, fun r hr => ?_, fun r hr => ?_⟩ <;> obtain ⟨q, hq, rfl⟩ := List.mem_map.1 hr
  · intro z hz
    obtain rfl : z = q := by simpa using hz
    have := Nat.pow_le_pow_right (n := 2) (by decide) (show S.length ≤ 64 by omega)
    have := hQ _ hq
    omega
  · exact ⟨by unfold kOf; simp; omega, fun c hc => bit_out (hQ _ hq) hc⟩
theorem takeQ {Q : List Nat} {k : Nat} (h : k < Q.length) : Q.take (k + 1) = Q.take k ++ [Q.getD k 0] := by
  rw [List.take_add_one, List.getD_eq_getElem?_getD, List.getElem?_eq_getElem h]; rfl
theorem rowsQ_snoc (Q : List Nat) (x : Nat) : rowsQ (Q ++ [x]) = rowsQ Q ++ [[x]] := by simp [rowsQ]
theorem rowsQ_length (Q : List Nat) : (rowsQ Q).length = Q.length := by simp [rowsQ]

set_option maxRecDepth 1000000 in
set_option maxHeartbeats 4000000 in
theorem elimRanks5 {w : World} (n : Int) (v1 v2 : Value) (L : List (List Nat)) (R : List Nat) (h1 : MatAt byteV w v1 L) (h2 : ListAt wordV w v2 R) (hL : ∀ r ∈ L, Octets r) (hR : Word R) (hT : Tab w) :
    Calls Tryd.prog 7 #[.agg #[.int .i64 n, v1, v2]] w fun e w' => e = .returned (.bool true) ∧ Below w.heap.size w w' := by
  obtain ⟨i0, hi0, hz0, hz1, hz2⟩ := info_parts info_row
  obtain ⟨w0, hw0⟩ : ∃ w0, w0 = w.alloc (.cells #[.int .i64 n, v1, v2] 54) := ⟨_, rfl⟩
  have hb0 : Below w.heap.size w w0 := by rw [hw0]; exact (Below.refl _ _).alloc (Nat.le_refl _) _
  have hbx : w0.heap[w.heap.size]? = some (.cells #[.int .i64 n, v1, v2] 54 (0, 0)) := by rw [hw0]; exact heap_alloc_new w _
  have hc0 := cell_of_heap (j := 0) (u := .int .i64 n) hbx rfl
  have hc1 := cell_of_heap (j := 1) (u := v1) hbx rfl
  have hc2 := cell_of_heap (j := 2) (u := v2) hbx rfl
  have HW0 := Lib.hid hw0
  have HT := Lib.hid hT
  have HM := Lib.hid (h1.mono hb0)
  have HRR := Lib.hid (h2.mono hb0)
  have HOL := Lib.hid hL
  have HWR := Lib.hid hR
  clear hw0 hb0 hbx h1 h2 hL hR hT
  go_enter Tryd.func7, Tryd.ntmps7
  go_wp2_with fail
  rw [← HW0.out]
  refine (fit_any n v1 v2 L R HM.out HRR.out HOL.out HWR.out).mono ?_
  rintro e w1 ⟨size, u1, u2, S, Q, rfl, hs1, hs4, hp, hm, hok, hq24, hq, hsy, hrw, hb1⟩
  obtain ⟨hbox, hlw⟩ := LawW.start (size := size) HW0.out hb1 hsy hrw
  have HLW := Lib.hid hlw
  have HOK := Lib.hid hok
  have HQ := Lib.hid hq
  have hx0 := cell_of_heap (j := 0) (u := .int .i64 n) hbox rfl
  have hx1 := cell_of_heap (j := 1) (u := v1) hbox rfl
  have hx2 := cell_of_heap (j := 2) (u := v2) hbox rfl
  have hf0 := frozen_of_heap (j := 0) hbox
  have hf1 := frozen_of_heap (j := 1) hbox
  have hf2 := frozen_of_heap (j := 2) hbox
  obtain ⟨⟨a1, cc1, rfl⟩, ⟨a2, cc2, rfl, ha2⟩⟩ := hlw.opens
  have HA2 := Lib.hid ha2
  clear hbox hlw hok hq hsy hrw hb1 ha2 hc0 hc1 hc2
  go_wp2_with fail
  generalize ((w1.setCell ⟨w.heap.size, 0, none⟩ (.int .i64 (size : Int))).setCell ⟨w.heap.size, 1, none⟩ (.slice a1 S.length cc1)).setCell ⟨w.heap.size, 2, none⟩ (.slice a2 Q.length cc2) = wS at *
  clear hx0 hx1 hx2 hf0 hf1 hf2
  have hltS := HLW.out.lt
  refine (sysNew S.length size hp (by omega) hs1 (by omega)).mono ?_
  rintro e w2 ⟨b, kb, rfl, hsys, hb, hkb, hb2⟩
  have HLW2 := Lib.hid (HLW.out.mono hb2)
  have HSYS := Lib.hid hsys
  have hbX : w.heap.size < b := by omega
  have hkX : w.heap.size < kb := by omega
  clear hsys hb2 hb hkb hltS HLW
  go_wp2_with fail
  go_loopw [5, 6] (fun o i wr => ∃ k : Nat, k ≤ Q.length ∧ i = .int .i64 k ∧ MatOwn wordV 47 w.heap.size 38 wr o (rowsQ (Q.take k)) ∧ LawW w wr size (.slice a1 S.length cc1) (.slice a2 Q.length cc2) S Q ∧ Sys wr b S.length size (kQ S size (Q.take k)) (rkQ (Q.take k)) false kb) (fun _ i _ => Q.length - (intOf i).toNat)
  case atStart =>
    have hba : Below w2.heap.size w2 (w2.alloc (.cells #[] 38)) := (Below.refl _ _).alloc (Nat.le_refl _) _
    exact ⟨0, Nat.zero_le _, rfl, MatOwn.start w2 (Nat.le_of_lt HLW2.out.lt), HLW2.out.mono hba, by rw [List.take_zero, rkQ_nil]; exact HSYS.out.mono hba⟩
  case round =>
    clear HLW2 HSYS
    obtain ⟨k, hk, rfl, ⟨vs, hown, hel⟩, hlw, hsys⟩ := hrel
    obtain ⟨hx0, hx1, hx2⟩ := hlw.cells
    by_cases hlt : k < Q.length
    · obtain ⟨g, rfl⟩ := HA2.out (by omega)
      have hxr := hlw.row hlt
      have hTk := takeQ hlt
      have hqx : Q.getD k 0 < 2 ^ S.length := HQ.out _ (by rw [List.getD_eq_getElem?_getD, List.getElem?_eq_getElem hlt]; exact List.getElem_mem hlt)
      have HTK := Lib.hid hTk
      have HQX := Lib.hid hqx
      have HLW := Lib.hid hlw
      have HSYS := Lib.hid hsys
      have hlen : (rowsQ (Q.take k)).length = k := by rw [rowsQ_length, List.length_take]; omega
      rw [hlen] at hown
      have HLEN := Lib.hid hlen
      have HOWN := Lib.hid hown
      have HEL := Lib.hid hel
      have hltb := hlw.lt
      obtain ⟨oo, oc, rfl, -, -⟩ := own_open hown
      clear hlw hsys hown hel hTk hqx hlen
      obtain ⟨x, hxq⟩ : ∃ x, x = Q.getD k 0 := ⟨_, rfl⟩
      rw [← hxq] at hxr HTK HQX
      have HXQ := Lib.hid hxq
      clear hxq
      have HLIT := Lib.hid (lit_words wr [x] 1 rfl (by decide))
      have HXE : Hid (ElAt wordV 47 w.heap.size (wr.alloc (.cells #[.int .u64 (x : Int)] 47)) (.slice (some ⟨wr.heap.size, 0, none⟩) 1 1) [x]) := Lib.hid (ElAt.own (n := 1) (World.ownsRow_lit (base := w.heap.size) (e := 47) (size := 1) wr #[.int .u64 (x : Int)] 1 (Nat.le_of_lt hltb) (by decide) rfl))
      have HB1 : Hid (Below wr.heap.size wr (wr.alloc (.cells #[.int .u64 (x : Int)] 47))) := Lib.hid ((Below.refl _ _).alloc (Nat.le_refl _) _)
      have hsz1 : (wr.alloc (.cells #[.int .u64 (x : Int)] 47)).heap.size = wr.heap.size + 1 := World.size_alloc _ _
      have HB2 : Hid (Below wr.heap.size wr ((wr.alloc (.cells #[.int .u64 (x : Int)] 47)).alloc (.cells #[.slice (some ⟨wr.heap.size, 0, none⟩) 1 1] 38))) := Lib.hid (HB1.out.alloc (by omega) _)
      have HCN : Hid (∀ j u, [Value.slice (some ⟨wr.heap.size, 0, none⟩) 1 1][j]? = some u → ((wr.alloc (.cells #[.int .u64 (x : Int)] 47)).alloc (.cells #[.slice (some ⟨wr.heap.size, 0, none⟩) 1 1] 38)).cell? ((⟨wr.heap.size + 1, 0, none⟩ : Addr).add j) = some u) := Lib.hid (by
        have h := cell_one_new (wr.alloc (.cells #[.int .u64 (x : Int)] 47)) (.slice (some ⟨wr.heap.size, 0, none⟩) 1 1) 38
        rw [hsz1] at h
        exact h)
      go_wp2_with (at_builtin; refine wpList_append_own _ rfl (.tmp 32) (.tmp 39) 67 rfl w.heap.size 38 i0 (.slice none 0 0) 1 24 Tryd.underlying67 hi0 hz0 hz1 hz2 rfl (by decide) (.slice oo k oc) k vs rfl ((HOWN.out.alloc _).alloc _) ⟨wr.heap.size + 1, 0, none⟩ 1 1 [.slice (some ⟨wr.heap.size, 0, none⟩) 1 1] rfl rfl HCN.out (fun x hx => by simp at hx; subst hx; rfl) (by unfold maxLen; omega) (by omega) (by simp; omega) ?_; intro va wa hown1 hgrow1 _; have HLWA := Lib.hid ((HLW.out.mono HB2.out).grown ((HOWN.out.alloc _).alloc _) hgrow1 (Nat.le_refl _) rfl); have HSYA := Lib.hid ((HSYS.out.mono HB2.out).grown ((HOWN.out.alloc _).alloc _) hgrow1 rfl); have HMO : Hid (MatOwn wordV 47 w.heap.size 38 wa va (rowsQ (Q.take k) ++ [[x]])) := Lib.hid (MatOwn.app (by decide) (by rw [HLEN.out]; exact HOWN.out.alloc _) (fun i => (HEL.out i).mono HB1.out) HXE.out (by rw [HLEN.out]; exact hown1) hgrow1); obtain ⟨av, cv, rfl, -, -⟩ := own_open hown1; clear hown1 hgrow1)
      have HQT : Hid (∀ q ∈ Q.take k, q < 2 ^ S.length) := Lib.hid fun q hq => HQ.out q (List.mem_of_mem_take hq)
      have hltA := HLWA.out.lt
      have hcA := HLWA.out.cells
      have hxA := HLWA.out.row hlt
      rw [← HXQ.out] at hxA
      have HBD : Hid (Below wa.heap.size wa wa.drew) := Lib.hid (Below.refl _ _).drew
      have HBE : Hid (Below wa.heap.size wa (wa.alloc (.cells #[.int .u64 (x : Int)] 47)).drew) := Lib.hid ((Below.refl _ _).alloc (Nat.le_refl _) _).drew
      have HLE : Hid (ListAt wordV (wa.alloc (.cells #[.int .u64 (x : Int)] 47)).drew (.slice (some ⟨wa.heap.size, 0, none⟩) 1 1) [x]) := Lib.hid ((lit_words wa [x] 1 rfl (by decide)).mono (Below.refl _ _).drew)
      have HSD : Hid (wa.drew.cell? ⟨w.heap.size, 0, none⟩ = some (.int .i64 (size : Int)) ∧ wa.drew.cell? ⟨w.heap.size, 1, none⟩ = some (.slice a1 S.length cc1) ∧ wa.drew.cell? ⟨w.heap.size, 2, none⟩ = some (.slice (some ⟨g, 0, none⟩) Q.length cc2) ∧ wa.drew.cell? ⟨g, k, none⟩ = some (.int .u64 (x : Int))) := Lib.hid ⟨hcA.1, hcA.2.1, hcA.2.2, hxA⟩
      have HSAT : Hid (∀ W, LawW w W size (.slice a1 S.length cc1) (.slice (some ⟨g, 0, none⟩) Q.length cc2) S Q → W.cell? ⟨w.heap.size, 0, none⟩ = some (.int .i64 (size : Int)) ∧ W.cell? ⟨w.heap.size, 1, none⟩ = some (.slice a1 S.length cc1) ∧ W.cell? ⟨w.heap.size, 2, none⟩ = some (.slice (some ⟨g, 0, none⟩) Q.length cc2) ∧ W.cell? ⟨g, k, none⟩ = some (.int .u64 (x : Int))) := Lib.hid fun W h => ⟨h.cells.1, h.cells.2.1, h.cells.2.2, by have := h.row hlt; rw [← HXQ.out] at this; exact this⟩
      clear hx0 hx1 hx2 hxr hcA hxA HLW HSYS HOWN HEL HLIT HXE HB1 HB2 HCN hsz1
      go_region_held3 (fun w' => w'.cell? ⟨w.heap.size, 0, none⟩ = some (.int .i64 (size : Int)) ∧ w'.cell? ⟨w.heap.size, 1, none⟩ = some (.slice a1 S.length cc1) ∧ w'.cell? ⟨w.heap.size, 2, none⟩ = some (.slice (some ⟨g, 0, none⟩) Q.length cc2) ∧ w'.cell? ⟨g, k, none⟩ = some (.int .u64 (x : Int)))
        (first | exact HSD.out | exact HSAT.out _ (HLWA.out.mono HBE.out) | exact HSAT.out _ HLWC.out | exact HSAT.out _ HLWB.out | exact HSAT.out _ HLWE.out | go_keep)
        (first
        | (go_at_call 21; (with_reducible refine (law_sym HLWA.out HOK.out hm hs4 HQX.out HBE.out).mono ?_); rintro e wB ⟨vB, rfl, hoB, hbB, hbB2⟩; have HLL := Lib.hid (HLE.out.mono hbB2); have HOB := Lib.hid hoB; have HBB := Lib.hid hbB; have HLWB := Lib.hid (HLWA.out.mono hbB); obtain ⟨ab, cb, rfl, -, -⟩ := own_open hoB; clear hoB hbB hbB2)
        | (go_at_call 21; (with_reducible refine (law_sym HLWA.out HOK.out hm hs4 HQX.out HBD.out).mono ?_); rintro e wB ⟨vB, rfl, hoB, hbB, hbB2⟩; have HBB := Lib.hid (hbB.alloc hbB.size (.cells #[.int .u64 (x : Int)] 47)); have HLWB := Lib.hid (HLWA.out.mono hbB); have HLWE := Lib.hid (HLWA.out.mono HBB.out); have HLL : Hid (ListAt wordV (wB.alloc (.cells #[.int .u64 (x : Int)] 47)) (.slice (some ⟨wB.heap.size, 0, none⟩) 1 1) [x]) := Lib.hid (lit_words wB [x] 1 rfl (by decide)); have HOB := Lib.hid (hoB.alloc (.cells #[.int .u64 (x : Int)] 47)); obtain ⟨ab, cb, rfl, -, -⟩ := own_open hoB; clear hoB hbB hbB2)
        | (go_at_call 16; (with_reducible refine (law_eq HLWA.out HOK.out hm hp HSYA.out HT.out HQT.out HQX.out hbX hkX HBB.out _ _ HLL.out (ListAt.of_owns HOB.out)).mono ?_); rintro e wC ⟨kk, rfl, hkk, -, hsP, htC, hsC, hlC⟩; have HSYC := Lib.hid hsC; have HLWC := Lib.hid hlC; have HMC := Lib.hid (matOwn_touch (HMO.out.mono HBB.out) hsP htC (Nat.le_of_lt hbX) (Nat.le_of_lt hkX) (Nat.le_trans (Nat.le_of_lt hltA) HBB.out.size)); clear hsP htC hsC hlC))
      all_goals
        clear HSD HSAT HBD HBE HLE HSYA HMO HLWA
        have hcC := HLWC.out.cells
        have hc1 := hcC.2.1
        have HRC : Hid (Calls Tryd.prog 17 #[sysP b] wC.drew fun e w' => e = .returned (.int .i64 (rkQ (Q.take k ++ [x]) : Int)) ∧ wC.drew = w') := Lib.hid (Rank_any b _ (HSYC.out.mono (Below.refl _ _).drew).cells.2.2.2.1)
        have hmat : MatAt wordV wC (.slice av (k + 1) cv) (rowsQ (Q.take k ++ [x])) := by rw [rowsQ_snoc]; exact HMC.out.at
        have HMOK : Hid (MatOk (rowsQ (Q.take k ++ [x])) S.length) := Lib.hid (rowsQ_ok hp hm (fun q hq => by
          rcases List.mem_append.1 hq with h | h
          · exact HQT.out q h
          · rw [List.mem_singleton.1 h]; exact HQX.out) (by rw [List.length_append, List.length_take]; simp; omega))
        have HRR2 : Hid (Calls Tryd.prog 27 #[.slice av (k + 1) cv, .int .i64 (S.length : Int)] wC.drew fun e w' => e = .returned (.int .i64 (rkQ (Q.take k ++ [x]) : Int)) ∧ Below wC.drew.heap.size wC.drew w') := Lib.hid (refRank_any _ _ S.length (hmat.mono (Below.refl _ _).drew) HMOK.out)
        have HRR3 : Hid (∀ w', Below wC.drew.heap.size wC.drew w' → Calls Tryd.prog 17 #[sysP b] w' fun e w'' => e = .returned (.int .i64 (rkQ (Q.take k ++ [x]) : Int)) ∧ w' = w'') := Lib.hid fun w' hb => Rank_any b _ ((HSYC.out.mono (Below.refl _ _).drew).mono hb).cells.2.2.2.1
        have HMC2 := Lib.hid hmat
        have HRK : Hid (rkQ (Q.take (k + 1)) = rkQ (Q.take k ++ [x])) := Lib.hid (by rw [HTK.out])
        clear hmat
        generalize hrr : rkQ (Q.take k ++ [x]) = rr at *
        clear hrr
        go_wp2_with fail
        go_region_held3 (fun w' => w'.cell? ⟨w.heap.size, 1, none⟩ = some (.slice a1 S.length cc1))
          (first | exact hc1 | exact hcR | go_keep)
          (first
          | (go_at_call 17; (with_reducible refine HRC.out.mono ?_); rintro e wR ⟨rfl, rfl⟩)
          | (go_at_call 17; (with_reducible refine (HRR3.out _ hbR).mono ?_); rintro e wR2 ⟨rfl, rfl⟩)
          | (go_at_call 27; (with_reducible refine HRR2.out.mono ?_); rintro e wR ⟨rfl, hbR⟩; have hcR := (hbR.cell (p := ⟨w.heap.size, 1, none⟩) (World.block_lt_of_cell? _ _ hc1)).trans hc1))
        all_goals
          have HBW : Hid (Below wC.heap.size wC wR) := Lib.hid ((Below.refl wC.heap.size wC).drew.trans (show Below wC.heap.size wC.drew wR from hbR))
          clear hbR
          go_wp2
          go_roundw
          case rel => exact ⟨k + 1, by omega, by go_num, by
            rw [HTK.out, rowsQ_snoc]
            exact HMC.out.mono HBW.out, HLWC.out.mono HBW.out, by rw [HRK.out, HTK.out]; exact HSYC.out.mono HBW.out⟩
          case measure => simp [intOf]; omega
    · have HBF := Lib.hid hlw.bel
      clear hown hel hlw hsys
      go_wp2_with fail
      refine (awake5 (HT.out.mono HBF.out)).mono ?_
      rintro e wZ ⟨rfl, hbZ⟩
      have HBZ := Lib.hid (HBF.out.trans (hbZ.mono HBF.out.size))
      clear hbZ
      go_wp2
      go_ret
      exact ⟨rfl, HBZ.out⟩
end Go.Proofs.YtnkkaggepokjeaaDoor
