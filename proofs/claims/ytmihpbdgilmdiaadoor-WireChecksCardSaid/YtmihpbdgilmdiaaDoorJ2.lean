import Derived.Test.YtmihpbdgilmdiaaDoorJ1
import Derived.Test.YtmihpbdgilmdiaaDoorWrStore
import Derived.Test.YtmihpbdgilmdiaaDoorJ10

section
/- The document's Body, Put of a right packet (layer 16). -/
namespace Go.Proofs.YtmihpbdgilmdiaaDoor
open Go.RowKit Go.Extern.Stop Go.Stop Go.Extern

theorem lay_head {p : Pkt} (h : RangedP p) : LayL (headN p) := by
  have h1 := h.k1; have h2 := h.k2; have h3 := h.s1; have h4 := h.s2; have h5 := h.l1; have h6 := h.l2; have h7 := h.t1; have h8 := h.t2
  intro x hx
  simp [headN] at hx
  rcases hx with rfl | rfl | rfl | rfl <;> refine ⟨⟨?_, ?_⟩, ?_, ?_⟩ <;> simp only [] <;> omega
theorem lay_data {p : Pkt} (hk : p.kind = 1) (h : RangedP p) : LayL (dataN p) := by
  obtain ⟨⟨h1, h2⟩, ⟨h3, h4⟩, ⟨h5, h6⟩, ⟨h7, h8⟩, h9, h10⟩ := h.d hk
  intro x hx
  simp [dataN] at hx
  rcases hx with rfl | rfl | rfl | rfl | rfl <;> refine ⟨⟨?_, ?_⟩, ?_, ?_⟩ <;> simp only [] <;> omega
theorem bytes_head (p : Pkt) : bytesN (headN p) = headB p := by
  show (beN 1 p.kind.toNat ++ (beN 2 p.session.toNat ++ (beN 1 p.layer.toNat ++ (beN 5 p.tick.toNat ++ [])))) = _
  rw [List.append_nil]; rfl
theorem bytes_data (p : Pkt) : bytesN (dataN p) = beN 1 (p.sync + 1).toNat ++ (beN 2 p.many.toNat ++ (beN 2 p.place.toNat ++ (beN 1 p.block.toNat ++ beN 2 p.esi.toNat))) := by
  show (beN 1 (p.sync + 1).toNat ++ (beN 2 p.many.toNat ++ (beN 2 p.place.toNat ++ (beN 1 p.block.toNat ++ (beN 2 p.esi.toNat ++ []))))) = _
  rw [List.append_nil]

set_option maxRecDepth 1000000 in
set_option maxHeartbeats 4000000 in
theorem rBodyD_any {w : World} (p : Pkt) (D : Value) (hk : p.kind = 1) (hD : ListAt byteV w D p.data) (hR : RangedP p) (hF : FormP p) : Calls Tryd.prog 30 #[pktV p D] w fun e w' =>
    ∃ v', e = .returned v' ∧ w'.ownsRow w.heap.size 5 1 v' (bodyD p).length ((bodyD p).map byteV) ∧ Below w.heap.size w w' := by
  obtain ⟨i0, hi0, hz0, hz1, hz2⟩ := info_parts info_u8
  obtain ⟨W1, hW1, hb1, hx1⟩ := pkt_laid w p D
  have HB := Lib.hid hb1
  have HW := Lib.hid hW1
  have HX := Lib.hid hx1
  have HD := Lib.hid hD
  have hdl : p.data.length ≤ 64 := ((hF.d hk).2).2.2.2.2.2
  obtain ⟨⟨y1, y2⟩, -⟩ := hR.d hk
  have HH : Hid (∀ V : World, Calls Tryd.prog 44 #[.agg (pktC p D)] V fun e w' => ∃ v, e = .returned v ∧ NumsAt w' v (headN p) ∧ Below V.heap.size V w') := Lib.hid fun V => rHead_any p D
  have HDA : Hid (∀ V : World, Calls Tryd.prog 45 #[.agg (pktC p D)] V fun e w' => ∃ v, e = .returned v ∧ NumsAt w' v (dataN p) ∧ Below V.heap.size V w') := Lib.hid fun V => rData_any p D y1 y2
  have HAL : Hid (∀ (V : World) (v : Value) (L : List Num4), NumsAt V v L → L.length ≤ 100 → LayL L → Calls Tryd.prog 52 #[v] V fun e w' => ∃ v', e = .returned v' ∧ w'.ownsRow V.heap.size 5 1 v' (bytesN L).length ((bytesN L).map byteV) ∧ Below V.heap.size V w') := Lib.hid fun V v L h h1 h2 => rAll_any v L h h1 h2
  have HLH := Lib.hid (lay_head hR)
  have HLD := Lib.hid (lay_data hk hR)
  have HBH := Lib.hid (bytes_head p)
  have HBD := Lib.hid (bytes_data p)
  have e1 : (p.kind == 1) = true := by simp [hk]
  have HBody : Hid (bodyD p = headB p ++ (([(p.sync + 1).toNat + (if p.burst then 128 else 0)] ++ (beN 2 p.many.toNat ++ (beN 2 p.place.toNat ++ (beN 1 p.block.toNat ++ beN 2 p.esi.toNat)))) ++ p.data)) := Lib.hid (by
    unfold bodyD
    rw [beN_one _ (by split <;> omega)]
    simp only [List.append_assoc])
  have HB1 : Hid (beN 1 (p.sync + 1).toNat = [(p.sync + 1).toNat]) := Lib.hid (beN_one _ (by omega))
  have HHL := Lib.hid (headB_length p)
  have HTL : Hid ((beN 2 p.many.toNat ++ (beN 2 p.place.toNat ++ (beN 1 p.block.toNat ++ beN 2 p.esi.toNat))).length = 7) := Lib.hid (by simp [beN_length])
  obtain ⟨ad, cd, hDe, -, -, -⟩ := HD.out
  subst hDe
  unfold pktC at HW HH HDA
  unfold pktV pktC
  clear hW1 hb1 hx1 hD hF hR hk
  go_enter Tryd.func30, Tryd.ntmps30
  go_upto_region 1 with fail
  rw [← HW.out]
  go_wp2_with ((with_reducible show wpList _ _ _ (⟨some 5, _, _, _, _, _⟩ :: _) _ _); refine wpList_load_row rfl 26 (.tmp 1) rfl w.heap.size rfl 26 (pktC p (.slice ad p.data.length cd)) (0, 0) _ HX.out Tryd.underlying26 rfl (by kernel_rfl) ?_; unfold pktC)
  refine (HH.out _).mono ?_
  rintro e w2 ⟨v2, rfl, hn2, hb2⟩
  have HV2 := Lib.hid hb2
  have HX2 := Lib.hid (HX.out.mono hb2)
  have HC2 := Lib.hid (HAL.out w2 v2 _ hn2 (show 4 ≤ 100 by decide) HLH.out)
  rw [HBH.out] at HC2
  clear hn2 hb2
  go_wp2_with fail
  refine HC2.out.mono ?_
  rintro e w3 ⟨v3, rfl, ho3, hb3⟩
  have HV3 := Lib.hid (HV2.out.trans (hb3.mono HV2.out.size))
  have HX3 := Lib.hid (HX2.out.mono hb3)
  have HO3 := Lib.hid (ownsRow_base ho3 HV2.out.size)
  obtain ⟨a3, c3, rfl, -, -⟩ := own_open ho3
  obtain ⟨c0, -⟩ := HX3.out.cells
  clear ho3 hb3
  go_wp2_with ((with_reducible show wpList _ _ _ (⟨some 11, _, _, _, _, _⟩ :: _) _ _); refine wpList_load_row rfl 26 (.tmp 1) rfl w.heap.size rfl 26 (pktC p (.slice ad p.data.length cd)) (0, 0) _ HX3.out Tryd.underlying26 rfl (by kernel_rfl) ?_; unfold pktC)
  refine (HDA.out _).mono ?_
  rintro e w4 ⟨v4, rfl, hn4, hb4⟩
  have HV4 := Lib.hid (HV3.out.trans (hb4.mono HV3.out.size))
  have HX4 := Lib.hid (HX3.out.mono hb4)
  have HO4 := Lib.hid (owns_kept HO3.out hb4)
  have HC4 := Lib.hid (HAL.out w4 v4 _ hn4 (show 5 ≤ 100 by decide) HLD.out)
  rw [HBD.out, HB1.out] at HC4
  clear hn4 hb4 c0
  go_wp2_with fail
  refine HC4.out.mono ?_
  rintro e w5 ⟨v5, rfl, ho5, hb5⟩
  have HB45 := Lib.hid hb5
  have HX5 := Lib.hid (HX4.out.mono hb5)
  have HM5 := Lib.hid ho5
  have hml : ([(p.sync + 1).toNat] ++ (beN 2 p.many.toNat ++ (beN 2 p.place.toNat ++ (beN 1 p.block.toNat ++ beN 2 p.esi.toNat)))).length = 8 := by rw [List.length_append, HTL.out]; rfl
  rw [hml] at HM5
  obtain ⟨g5, c5, rfl, hg1, hg2⟩ := HM5.out.form (by omega)
  obtain ⟨c0, -, -, -, c4, -⟩ := HX5.out.cells
  generalize beN 2 p.many.toNat ++ (beN 2 p.place.toNat ++ (beN 1 p.block.toNat ++ beN 2 p.esi.toNat)) = T at *
  obtain ⟨y, hy⟩ : ∃ y, y = (p.sync + 1).toNat := ⟨_, rfl⟩
  rw [← hy] at HM5 HBody
  have hy9 : y ≤ 8 := by omega
  have hT7 : T.length = 7 := HTL.out
  have hHl : (headB p).length = 9 := HHL.out
  generalize headB p = H at *
  clear ho5 hb5 HC4 HB1 hml hy
  cases hbu : p.burst with
  | false =>
    rw [hbu] at c4 HBody
    obtain ⟨x, hx⟩ : ∃ x, x = y := ⟨_, rfl⟩
    have HBody2 : Hid (bodyD p = (H ++ x :: T) ++ p.data) := Lib.hid (by rw [HBody.out, hx]; simp)
    have HB46 : Hid (Below w4.heap.size w4 w5) := Lib.hid HB45.out
    have HM6 : Hid (w5.ownsRow w4.heap.size 5 1 (.slice (some ⟨g5, 0, none⟩) 8 c5) 8 ((x :: T).map byteV)) := Lib.hid (by rw [hx]; exact HM5.out)
    clear hx HBody
    go_upto_region 6 with fail
    obtain ⟨w6, hw6⟩ : ∃ w6, w6 = w5 := ⟨_, rfl⟩
    rw [← hw6] at HM6 HB46 ⊢
    clear hw6 c0 c4
    have HV6 := Lib.hid (HV4.out.trans (HB46.out.mono HV4.out.size))
    have HO6 := Lib.hid (owns_kept HO4.out HB46.out)
    rw [hHl] at HO6
    have hxT : (x :: T).length = 8 := by rw [List.length_cons, hT7]
    have HL6 := Lib.hid (ListAt.of_owns (f := byteV) (l := x :: T) HM6.out)
    have HMV : Hid ((H ++ x :: T).map byteV = H.map byteV ++ (x :: T).map byteV) := Lib.hid (List.map_append ..)
    have HMD : Hid (((H ++ x :: T) ++ p.data).map byteV = (H ++ x :: T).map byteV ++ p.data.map byteV) := Lib.hid (List.map_append ..)
    have hHT : (H ++ x :: T).length = 17 := by rw [List.length_append, hHl, hxT]
    go_upto_region 7 with (at_builtin; refine wpList_append_of _ rfl (.tmp 22) (.tmp 23) 22 rfl W1.heap.size 5 i0 (.int .u8 0) 1 Tryd.underlying22 hi0 hz0 hz1 hz2 rfl (.slice a3 9 c3) 9 (H.map byteV) rfl HO6.out (.slice (some ⟨g5, 0, none⟩) 8 c5) (x :: T) rfl HL6.out (fun y _ => rfl) (by unfold maxLen; omega) (by omega) HV6.out.size ?_; intro v7 w7 ho7 hg7; have HO7 := Lib.hid ho7; have HV7 := Lib.hid (HV6.out.grown hg7 HV6.out.size (fun k hk => (HO6.out.lt k hk).1)); clear ho7 hg7)
    rw [hxT, ← HMV.out] at HO7
    have HX7 := Lib.hid (HX.out.mono HV7.out)
    have HD7 := Lib.hid (HD.out.mono (HB.out.trans (HV7.out.mono HB.out.size)))
    obtain ⟨-, -, -, -, -, -, -, -, -, -, c10, -⟩ := HX7.out.cells
    obtain ⟨a7, c7, hv7, -, -⟩ := own_open HO7.out
    subst hv7
    generalize (H ++ x :: T).map byteV = Z at *
    go_wp2_with (at_builtin; refine wpList_append_of _ rfl (.tmp 25) (.tmp 27) 22 rfl W1.heap.size 5 i0 (.int .u8 0) 1 Tryd.underlying22 hi0 hz0 hz1 hz2 rfl (.slice a7 (9 + 8) c7) (9 + 8) Z rfl HO7.out (.slice ad p.data.length cd) p.data rfl HD7.out (fun y _ => rfl) (by unfold maxLen; omega) (by omega) HV7.out.size ?_; intro v8 w8 ho8 hg8; have HO8 := Lib.hid ho8; have HV8 := Lib.hid (HV7.out.grown hg8 HV7.out.size (fun k hk => (HO7.out.lt k hk).1)); clear ho8 hg8)
    go_ret
    refine ⟨_, rfl, ?_, HB.out.trans (HV8.out.mono HB.out.size)⟩
    have h := ownsRow_base HO8.out HB.out.size
    rw [HBody2.out, List.length_append, hHT, HMD.out]
    exact h
  | true =>
    rw [hbu] at c4 HBody
    obtain ⟨x, hx⟩ : ∃ x, x = y + 128 := ⟨_, rfl⟩
    have HBody2 : Hid (bodyD p = (H ++ x :: T) ++ p.data) := Lib.hid (by rw [HBody.out, hx]; simp)
    have q1 : w5.cell? ⟨g5, 0, none⟩ = some (.int .u8 (y : Int)) := by
      rw [HM5.out.cellAt 0 (by omega)]; rfl
    have f1 : w5.frozen? ⟨g5, 0, none⟩ = false := HM5.out.frozenAt 0
    have hcv : IntKind.u8.wrap ((y : Int) + 128) = (x : Int) := by rw [IntKind.wrap_u8]; omega
    have hcm : ((y : Int) + 128) % 256 = (x : Int) := by omega
    have HB46 : Hid (Below w4.heap.size w4 (w5.setCell ⟨g5, 0, none⟩ (.int .u8 (x : Int)))) := Lib.hid (HB45.out.setCell (p := ⟨g5, 0, none⟩) hg1 _)
    have HM6 : Hid ((w5.setCell ⟨g5, 0, none⟩ (.int .u8 (x : Int))).ownsRow w4.heap.size 5 1 (.slice (some ⟨g5, 0, none⟩) 8 c5) 8 ((x :: T).map byteV)) := Lib.hid ((HM5.out.stored 0 (.int .u8 (x : Int))).1)
    clear hx HBody
    go_upto_region 6 with fail
    obtain ⟨w6, hw6⟩ : ∃ w6, w6 = w5.setCell ⟨g5, 0, none⟩ (.int .u8 (x : Int)) := ⟨_, rfl⟩
    rw [← hw6] at HM6 HB46 ⊢
    clear hw6 c0 c4 q1 f1 hcv hcm
    have HV6 := Lib.hid (HV4.out.trans (HB46.out.mono HV4.out.size))
    have HO6 := Lib.hid (owns_kept HO4.out HB46.out)
    rw [hHl] at HO6
    have hxT : (x :: T).length = 8 := by rw [List.length_cons, hT7]
    have HL6 := Lib.hid (ListAt.of_owns (f := byteV) (l := x :: T) HM6.out)
    have HMV : Hid ((H ++ x :: T).map byteV = H.map byteV ++ (x :: T).map byteV) := Lib.hid (List.map_append ..)
    have HMD : Hid (((H ++ x :: T) ++ p.data).map byteV = (H ++ x :: T).map byteV ++ p.data.map byteV) := Lib.hid (List.map_append ..)
    have hHT : (H ++ x :: T).length = 17 := by rw [List.length_append, hHl, hxT]
    go_upto_region 7 with (at_builtin; refine wpList_append_of _ rfl (.tmp 22) (.tmp 23) 22 rfl W1.heap.size 5 i0 (.int .u8 0) 1 Tryd.underlying22 hi0 hz0 hz1 hz2 rfl (.slice a3 9 c3) 9 (H.map byteV) rfl HO6.out (.slice (some ⟨g5, 0, none⟩) 8 c5) (x :: T) rfl HL6.out (fun y _ => rfl) (by unfold maxLen; omega) (by omega) HV6.out.size ?_; intro v7 w7 ho7 hg7; have HO7 := Lib.hid ho7; have HV7 := Lib.hid (HV6.out.grown hg7 HV6.out.size (fun k hk => (HO6.out.lt k hk).1)); clear ho7 hg7)
    rw [hxT, ← HMV.out] at HO7
    have HX7 := Lib.hid (HX.out.mono HV7.out)
    have HD7 := Lib.hid (HD.out.mono (HB.out.trans (HV7.out.mono HB.out.size)))
    obtain ⟨-, -, -, -, -, -, -, -, -, -, c10, -⟩ := HX7.out.cells
    obtain ⟨a7, c7, hv7, -, -⟩ := own_open HO7.out
    subst hv7
    generalize (H ++ x :: T).map byteV = Z at *
    go_wp2_with (at_builtin; refine wpList_append_of _ rfl (.tmp 25) (.tmp 27) 22 rfl W1.heap.size 5 i0 (.int .u8 0) 1 Tryd.underlying22 hi0 hz0 hz1 hz2 rfl (.slice a7 (9 + 8) c7) (9 + 8) Z rfl HO7.out (.slice ad p.data.length cd) p.data rfl HD7.out (fun y _ => rfl) (by unfold maxLen; omega) (by omega) HV7.out.size ?_; intro v8 w8 ho8 hg8; have HO8 := Lib.hid ho8; have HV8 := Lib.hid (HV7.out.grown hg8 HV7.out.size (fun k hk => (HO7.out.lt k hk).1)); clear ho8 hg8)
    go_ret
    refine ⟨_, rfl, ?_, HB.out.trans (HV8.out.mono HB.out.size)⟩
    have h := ownsRow_base HO8.out HB.out.size
    rw [HBody2.out, List.length_append, hHT, HMD.out]
    exact h
end Go.Proofs.YtmihpbdgilmdiaaDoor
end

section
/- The document's Body of an announcement; Body, Put of a right packet (layer 16). (Made by genbody.py.) -/
namespace Go.Proofs.YtmihpbdgilmdiaaDoor
open Go.RowKit Go.Extern.Stop Go.Stop Go.Extern

theorem five_new (w : World) (a b c d f : Value) (e : TypeId) : ListAt id (w.alloc (.cells #[a, b, c, d, f] e)) (.slice (some ⟨w.heap.size, 0, none⟩) 5 5) [a, b, c, d, f] :=
  ListAt.of_owns (f := id) (l := [a, b, c, d, f]) (own_of_heap (base := 0) (n := 5) (g := w.heap.size) (e := e) (xs := [a, b, c, d, f].map id) (Nat.zero_le _) rfl (by decide) (heap_alloc_new w _))

set_option maxRecDepth 1000000 in
set_option maxHeartbeats 4000000 in
theorem rBodyA_any {w : World} (p : Pkt) (D : Value) (hk : p.kind = 2) (hR : RangedP p) (hF : FormP p) : Calls Tryd.prog 30 #[pktV p D] w fun e w' =>
    ∃ v', e = .returned v' ∧ w'.ownsRow w.heap.size 5 1 v' (bodyA p).length ((bodyA p).map byteV) ∧ Below w.heap.size w w' := by
  obtain ⟨i0, hi0, hz0, hz1, hz2⟩ := info_parts info_u8
  obtain ⟨W1, hW1, hb1, hx1⟩ := pkt_laid w p D
  have HB := Lib.hid hb1
  have HW := Lib.hid hW1
  have HX := Lib.hid hx1
  obtain ⟨-, z1, ⟨y1, y2⟩, ⟨e1, e2⟩, ⟨b1, b2⟩, ⟨n1, n2⟩⟩ := hR.a hk
  obtain ⟨-, -, -, -, -, -, -, f8⟩ := hF.a hk
  obtain ⟨s, b, n, l, q, g1, g2, g3, g4, g5, hp⟩ := planC_zero f8
  have r1 := hp.b64; have r2 := hp.n16; have r3 := hp.lt; have r4 := hp.q128
  obtain ⟨ly, hly⟩ : ∃ x : Nat, p.layers = (x : Int) := ⟨p.layers.toNat, by omega⟩
  obtain ⟨es, hes⟩ : ∃ x : Nat, p.esis = ((x + 1 : Nat) : Int) := ⟨(p.esis - 1).toNat, by omega⟩
  obtain ⟨ba, hba⟩ : ∃ x : Nat, p.base = (x : Int) := ⟨p.base.toNat, by omega⟩
  obtain ⟨le, hle⟩ : ∃ x : Nat, p.length = (x : Int) := ⟨p.length.toNat, by omega⟩
  have HH : Hid (∀ V : World, Calls Tryd.prog 44 #[.agg (pktC p D)] V fun e w' => ∃ v, e = .returned v ∧ NumsAt w' v (headN p) ∧ Below V.heap.size V w') := Lib.hid fun V => rHead_any p D
  have HAL : Hid (∀ (V : World) (v : Value) (L : List Num4), NumsAt V v L → L.length ≤ 100 → LayL L → Calls Tryd.prog 52 #[v] V fun e w' => ∃ v', e = .returned v' ∧ w'.ownsRow V.heap.size 5 1 v' (bytesN L).length ((bytesN L).map byteV) ∧ Below V.heap.size V w') := Lib.hid fun V v L h h1 h2 => rAll_any v L h h1 h2
  have HLY : Hid (∀ (n k : Nat), n ≤ 9223372036854775807 → k ≤ 100 → ∀ V : World, Calls Tryd.prog 53 #[.int .i64 (n : Int), .int .i64 (k : Int)] V fun e w' => ∃ g, e = .returned (.slice (some ⟨g, 0, none⟩) k k) ∧ w'.ownsRow V.heap.size 5 1 (.slice (some ⟨g, 0, none⟩) k k) k ((beN k n).map byteV) ∧ Below V.heap.size V w') := Lib.hid fun n k h1 h2 V => rLay_any n k h1 h2
  have HLH := Lib.hid (lay_head hR)
  have HBH := Lib.hid (bytes_head p)
  have t1 : (p.kind == 1) = false := by simp [hk]
  have HBody : Hid (bodyA p = ((((headB p ++ beN 4 s) ++ [b, n, l, q, ly]) ++ beN 2 es) ++ beN 2 ba) ++ beN 2 le) := Lib.hid (by
    unfold bodyA
    rw [g1, g2, g3, g4, g5, hly, hes, hba, hle, show (((es + 1 : Nat) : Int) - 1).toNat = es by omega]
    simp only [Int.toNat_natCast]
    rw [beN_one b (by omega), beN_one n (by omega), beN_one l (by omega), beN_one q (by omega), beN_one ly (by omega)]
    simp only [List.append_assoc, List.cons_append, List.nil_append])
  have HBL : Hid (∀ k n, (beN k n).length = k) := Lib.hid beN_length
  have hHl : (headB p).length = 9 := headB_length p
  have HBLA := Lib.hid (bodyA_length p)
  have HC : Hid (∀ V, PktBox V w.heap.size p D → V.cell? ⟨w.heap.size, 0, none⟩ = some (.int .i64 p.kind) ∧ V.cell? ⟨w.heap.size, 11, none⟩ = some (.int .i64 (s : Int)) ∧ V.cell? ⟨w.heap.size, 12, none⟩ = some (.int .i64 (b : Int)) ∧ V.cell? ⟨w.heap.size, 13, none⟩ = some (.int .i64 (n : Int)) ∧ V.cell? ⟨w.heap.size, 14, none⟩ = some (.int .i64 (l : Int)) ∧ V.cell? ⟨w.heap.size, 15, none⟩ = some (.int .i64 (q : Int)) ∧ V.cell? ⟨w.heap.size, 16, none⟩ = some (.int .i64 (ly : Int)) ∧ V.cell? ⟨w.heap.size, 17, none⟩ = some (.int .i64 ((es + 1 : Nat) : Int)) ∧ V.cell? ⟨w.heap.size, 18, none⟩ = some (.int .i64 (ba : Int)) ∧ V.cell? ⟨w.heap.size, 19, none⟩ = some (.int .i64 (le : Int))) := Lib.hid fun V h => by
    have h2 := h.cells
    refine ⟨h2.c0, ?_, ?_, ?_, ?_, ?_, ?_, ?_, ?_, ?_⟩
    · rw [← g1]; exact h2.c11
    · rw [← g2]; exact h2.c12
    · rw [← g3]; exact h2.c13
    · rw [← g4]; exact h2.c14
    · rw [← g5]; exact h2.c15
    · rw [← hly]; exact h2.c16
    · rw [← hes]; exact h2.c17
    · rw [← hba]; exact h2.c18
    · rw [← hle]; exact h2.c19
  have k1 : s ≤ 4294967295 := by omega
  have k2 : b ≤ 255 := by omega
  have k3 : n ≤ 255 := by omega
  have k4 : l ≤ 255 := by omega
  have k5 : q ≤ 255 := by omega
  have k6 : ly ≤ 255 := by omega
  have k7 : es ≤ 65535 := by omega
  have k8 : ba ≤ 65535 := by omega
  have k9 : le ≤ 65535 := by omega
  have HLS := Lib.hid (HLY.out s 4 (by omega) (by decide))
  have HLE := Lib.hid (HLY.out es 2 (by omega) (by decide))
  have HLB := Lib.hid (HLY.out ba 2 (by omega) (by decide))
  have HLL := Lib.hid (HLY.out le 2 (by omega) (by decide))
  have hsub : ((es + 1 : Nat) : Int) - 1 = (es : Int) := by omega
  have hsub2 : (es : Int) + 1 - 1 = (es : Int) := by omega
  unfold pktC at HW HH
  unfold pktV pktC
  clear hW1 hb1 hx1 hF hR hk z1 y1 y2 e1 e2 b1 b2 n1 n2 f8 g1 g2 g3 g4 g5 hp r1 r2 r3 r4 hly hes hba hle HLY
  go_enter Tryd.func30, Tryd.ntmps30
  go_upto_region 1 with fail
  rw [← HW.out]
  go_wp2_with ((with_reducible show wpList _ _ _ (⟨some 5, _, _, _, _, _⟩ :: _) _ _); refine wpList_load_row rfl 26 (.tmp 1) rfl w.heap.size rfl 26 (pktC p D) (0, 0) _ HX.out Tryd.underlying26 rfl (by kernel_rfl) ?_; unfold pktC)
  refine (HH.out _).mono ?_
  rintro e w2 ⟨v2, rfl, hn2, hb2⟩
  have HV2 := Lib.hid hb2
  have HX2 := Lib.hid (HX.out.mono hb2)
  have HC2 := Lib.hid (HAL.out w2 v2 _ hn2 (show 4 ≤ 100 by decide) HLH.out)
  rw [HBH.out, hHl] at HC2
  clear hn2 hb2
  go_wp2_with fail
  refine HC2.out.mono ?_
  rintro e w3 ⟨v3, rfl, ho3, hb3⟩
  have HV3 := Lib.hid (HV2.out.trans (hb3.mono HV2.out.size))
  have HX3 := Lib.hid (HX2.out.mono hb3)
  have HO3 := Lib.hid (ownsRow_base ho3 HV2.out.size)
  generalize headB p = H at *
  obtain ⟨c0, c11, c12, c13, c14, c15, c16, c17, c18, c19⟩ := HC.out _ HX3.out
  obtain ⟨a3, q3, hv3, -, -⟩ := own_open HO3.out
  subst hv3
  clear ho3 hb3
  go_wp2_with fail
  refine (HLS.out _).mono ?_
  rintro e w4 ⟨g4, rfl, ho4, hb4⟩
  have HV4 := Lib.hid (HV3.out.trans (hb4.mono HV3.out.size))
  have HO4 := Lib.hid (owns_kept HO3.out hb4)
  have HL4 := Lib.hid (ListAt.of_owns (f := byteV) (l := beN 4 s) ho4)
  have hbl4 := HBL.out 4 s
  clear ho4 hb4 c0 c11 c12 c13 c14 c15 c16 c17 c18 c19
  go_upto_region 9 with (at_builtin; refine wpList_append_of _ rfl (.tmp 29) (.tmp 33) 22 rfl W1.heap.size 5 i0 (.int .u8 0) 1 Tryd.underlying22 hi0 hz0 hz1 hz2 rfl (.slice a3 9 q3) 9 (H.map byteV) rfl HO4.out (.slice (some ⟨g4, 0, none⟩) 4 4) (beN 4 s) rfl HL4.out (fun y _ => rfl) (by  unfold maxLen; omega) (by  omega) HV4.out.size ?_; intro v5 w5 ho5 hg5; have HO5 := Lib.hid ho5; have HV5 := Lib.hid (HV4.out.grown hg5 HV4.out.size (fun k hk => (HO4.out.lt k hk).1)); clear ho5 hg5)
  rw [hbl4, ← List.map_append] at HO5
  have HX5 := Lib.hid (HX.out.mono HV5.out)
  obtain ⟨c0, c11, c12, c13, c14, c15, c16, c17, c18, c19⟩ := HC.out _ HX5.out
  obtain ⟨a5, q5, hv5, -, -⟩ := own_open HO5.out
  subst hv5
  (try simp only [Nat.reduceAdd] at HO5)
  (try simp only [Nat.reduceAdd])
  have hwb : IntKind.u8.wrap (b : Int) = (b : Int) := by rw [IntKind.wrap_u8]; omega
  have hmb : (b : Int) % 256 = (b : Int) := by omega
  have hwn : IntKind.u8.wrap (n : Int) = (n : Int) := by rw [IntKind.wrap_u8]; omega
  have hmn : (n : Int) % 256 = (n : Int) := by omega
  have hwl : IntKind.u8.wrap (l : Int) = (l : Int) := by rw [IntKind.wrap_u8]; omega
  have hml : (l : Int) % 256 = (l : Int) := by omega
  have hwq : IntKind.u8.wrap (q : Int) = (q : Int) := by rw [IntKind.wrap_u8]; omega
  have hmq : (q : Int) % 256 = (q : Int) := by omega
  have hwly : IntKind.u8.wrap (ly : Int) = (ly : Int) := by rw [IntKind.wrap_u8]; omega
  have hmly : (ly : Int) % 256 = (ly : Int) := by omega
  have HS5 : Hid (W1.heap.size ≤ (w5.alloc (.cells #[.int .u8 (b : Int), .int .u8 (n : Int), .int .u8 (l : Int), .int .u8 (q : Int), .int .u8 (ly : Int)] 5)).heap.size) := Lib.hid (by rw [World.size_alloc]; have := HV5.out.size; omega)
  go_upto_region 10 with (at_builtin; refine wpList_append_of (f := id) _ rfl (.tmp 35) (.tmp 55) 22 rfl W1.heap.size 5 i0 (.int .u8 0) 1 Tryd.underlying22 hi0 hz0 hz1 hz2 rfl (.slice a5 13 q5) 13 ((H ++ beN 4 s).map byteV) rfl (HO5.out.alloc (.cells #[.int .u8 (b : Int), .int .u8 (n : Int), .int .u8 (l : Int), .int .u8 (q : Int), .int .u8 (ly : Int)] 5)) (.slice (some ⟨w5.heap.size, 0, none⟩) 5 5) [.int .u8 (b : Int), .int .u8 (n : Int), .int .u8 (l : Int), .int .u8 (q : Int), .int .u8 (ly : Int)] rfl (five_new w5 _ _ _ _ _ _) (fun y hy => by simp at hy; rcases hy with rfl | rfl | rfl | rfl | rfl <;> rfl) (by simp only [List.length_cons, List.length_nil]; unfold maxLen; omega) (by simp only [List.length_cons, List.length_nil]; omega) HS5.out ?_; intro v6 w6 ho6 hg6; have HO6 := Lib.hid ho6; have HV6 := Lib.hid ((HV5.out.alloc HV5.out.size (.cells #[.int .u8 (b : Int), .int .u8 (n : Int), .int .u8 (l : Int), .int .u8 (q : Int), .int .u8 (ly : Int)] 5)).grown hg6 HS5.out (fun k hk => ((HO5.out.alloc (.cells #[.int .u8 (b : Int), .int .u8 (n : Int), .int .u8 (l : Int), .int .u8 (q : Int), .int .u8 (ly : Int)] 5)).lt k hk).1)); clear ho6 hg6)
  have HF5 : Hid ((H ++ beN 4 s).map byteV ++ [.int .u8 (b : Int), .int .u8 (n : Int), .int .u8 (l : Int), .int .u8 (q : Int), .int .u8 (ly : Int)].map id = ((H ++ beN 4 s) ++ [b, n, l, q, ly]).map byteV) := Lib.hid (by simp [byteV])
  (try simp only [List.length_cons, List.length_nil, Nat.reduceAdd] at HO6)
  rw [HF5.out] at HO6
  clear c0 c11 c12 c13 c14 c15 c16 c17 c18 c19 hwb hmb hwn hmn hwl hml hwq hmq hwly hmly
  have HX6 := Lib.hid (HX.out.mono HV6.out)
  obtain ⟨c0, c11, c12, c13, c14, c15, c16, c17, c18, c19⟩ := HC.out _ HX6.out
  obtain ⟨a6, q6, hv6, -, -⟩ := own_open HO6.out
  subst hv6
  (try simp only [Nat.reduceAdd] at HO6)
  (try simp only [Nat.reduceAdd])
  go_wp2_with fail
  refine (HLE.out _).mono ?_
  rintro e w7 ⟨g7, rfl, ho7, hb7⟩
  have HV7 := Lib.hid (HV6.out.trans (hb7.mono HV6.out.size))
  have HO7 := Lib.hid (owns_kept HO6.out hb7)
  have HL7 := Lib.hid (ListAt.of_owns (f := byteV) (l := beN 2 es) ho7)
  have hbl7 := HBL.out 2 es
  clear ho7 hb7 c0 c11 c12 c13 c14 c15 c16 c17 c18 c19
  go_upto_region 11 with (at_builtin; refine wpList_append_of _ rfl (.tmp 57) (.tmp 61) 22 rfl W1.heap.size 5 i0 (.int .u8 0) 1 Tryd.underlying22 hi0 hz0 hz1 hz2 rfl (.slice a6 18 q6) 18 (((H ++ beN 4 s) ++ [b, n, l, q, ly]).map byteV) rfl HO7.out (.slice (some ⟨g7, 0, none⟩) 2 2) (beN 2 es) rfl HL7.out (fun y _ => rfl) (by  unfold maxLen; omega) (by  omega) HV7.out.size ?_; intro v8 w8 ho8 hg8; have HO8 := Lib.hid ho8; have HV8 := Lib.hid (HV7.out.grown hg8 HV7.out.size (fun k hk => (HO7.out.lt k hk).1)); clear ho8 hg8)
  rw [hbl7, ← List.map_append] at HO8
  have HX8 := Lib.hid (HX.out.mono HV8.out)
  obtain ⟨c0, c11, c12, c13, c14, c15, c16, c17, c18, c19⟩ := HC.out _ HX8.out
  obtain ⟨a8, q8, hv8, -, -⟩ := own_open HO8.out
  subst hv8
  (try simp only [Nat.reduceAdd] at HO8)
  (try simp only [Nat.reduceAdd])
  go_wp2_with fail
  refine (HLB.out _).mono ?_
  rintro e w9 ⟨g9, rfl, ho9, hb9⟩
  have HV9 := Lib.hid (HV8.out.trans (hb9.mono HV8.out.size))
  have HO9 := Lib.hid (owns_kept HO8.out hb9)
  have HL9 := Lib.hid (ListAt.of_owns (f := byteV) (l := beN 2 ba) ho9)
  have hbl9 := HBL.out 2 ba
  clear ho9 hb9 c0 c11 c12 c13 c14 c15 c16 c17 c18 c19
  go_upto_region 12 with (at_builtin; refine wpList_append_of _ rfl (.tmp 63) (.tmp 66) 22 rfl W1.heap.size 5 i0 (.int .u8 0) 1 Tryd.underlying22 hi0 hz0 hz1 hz2 rfl (.slice a8 20 q8) 20 ((((H ++ beN 4 s) ++ [b, n, l, q, ly]) ++ beN 2 es).map byteV) rfl HO9.out (.slice (some ⟨g9, 0, none⟩) 2 2) (beN 2 ba) rfl HL9.out (fun y _ => rfl) (by  unfold maxLen; omega) (by  omega) HV9.out.size ?_; intro v10 w10 ho10 hg10; have HO10 := Lib.hid ho10; have HV10 := Lib.hid (HV9.out.grown hg10 HV9.out.size (fun k hk => (HO9.out.lt k hk).1)); clear ho10 hg10)
  rw [hbl9, ← List.map_append] at HO10
  have HX10 := Lib.hid (HX.out.mono HV10.out)
  obtain ⟨c0, c11, c12, c13, c14, c15, c16, c17, c18, c19⟩ := HC.out _ HX10.out
  obtain ⟨a10, q10, hv10, -, -⟩ := own_open HO10.out
  subst hv10
  (try simp only [Nat.reduceAdd] at HO10)
  (try simp only [Nat.reduceAdd])
  go_wp2_with fail
  refine (HLL.out _).mono ?_
  rintro e w11 ⟨g11, rfl, ho11, hb11⟩
  have HV11 := Lib.hid (HV10.out.trans (hb11.mono HV10.out.size))
  have HO11 := Lib.hid (owns_kept HO10.out hb11)
  have HL11 := Lib.hid (ListAt.of_owns (f := byteV) (l := beN 2 le) ho11)
  have hbl11 := HBL.out 2 le
  clear ho11 hb11 c0 c11 c12 c13 c14 c15 c16 c17 c18 c19
  go_wp2_with (at_builtin; refine wpList_append_of _ rfl (.tmp 68) (.tmp 71) 22 rfl W1.heap.size 5 i0 (.int .u8 0) 1 Tryd.underlying22 hi0 hz0 hz1 hz2 rfl (.slice a10 22 q10) 22 (((((H ++ beN 4 s) ++ [b, n, l, q, ly]) ++ beN 2 es) ++ beN 2 ba).map byteV) rfl HO11.out (.slice (some ⟨g11, 0, none⟩) 2 2) (beN 2 le) rfl HL11.out (fun y _ => rfl) (by  unfold maxLen; omega) (by  omega) HV11.out.size ?_; intro v12 w12 ho12 hg12; have HO12 := Lib.hid ho12; have HV12 := Lib.hid (HV11.out.grown hg12 HV11.out.size (fun k hk => (HO11.out.lt k hk).1)); clear ho12 hg12)
  rw [hbl11, ← List.map_append] at HO12
  go_ret
  refine ⟨_, rfl, ?_, HB.out.trans (HV12.out.mono HB.out.size)⟩
  have h := ownsRow_base HO12.out HB.out.size
  rw [HBLA.out, HBody.out]
  exact h
end Go.Proofs.YtmihpbdgilmdiaaDoor
end

section
/- The document's Body, Put of a right packet; number (layer 16). -/
namespace Go.Proofs.YtmihpbdgilmdiaaDoor
open Go.RowKit Go.Extern.Stop Go.Stop Go.Extern

theorem rBody_any {w : World} (p : Pkt) (D : Value) (hD : ListAt byteV w D p.data) (hR : RangedP p) (hF : FormP p) : Calls Tryd.prog 30 #[pktV p D] w fun e w' =>
    ∃ v', e = .returned v' ∧ w'.ownsRow w.heap.size 5 1 v' (bodyP p).length ((bodyP p).map byteV) ∧ Below w.heap.size w w' := by
  unfold bodyP
  by_cases hk : p.kind = 1
  · rw [if_pos hk]; exact rBodyD_any p D hk hD hR hF
  · rw [if_neg hk]; exact rBodyA_any p D (by have := hR.k1; have := hR.k2; omega) hR hF

theorem bodyP_le {p : Pkt} (hR : RangedP p) (hF : FormP p) : (bodyP p).length ≤ 81 := (show IsP (bodyP p) p from ⟨hR, hF, rfl⟩).len.2

/-- a right packet's bytes -/
def putP (p : Pkt) : List Nat := bodyP p ++ le4 (crcSum (bodyP p))

set_option maxRecDepth 1000000 in
set_option maxHeartbeats 4000000 in
theorem rPut_any {w : World} (p : Pkt) (D : Value) (hD : ListAt byteV w D p.data) (ho : Octets p.data) (hR : RangedP p) (hF : FormP p) : Calls Tryd.prog 13 #[pktV p D] w fun e w' =>
    ∃ v', e = .returned v' ∧ w'.ownsRow w.heap.size 5 1 v' (putP p).length ((putP p).map byteV) ∧ Below w.heap.size w w' := by
  obtain ⟨W1, hW1, hb1, hx1⟩ := pkt_laid w p D
  have HB := Lib.hid hb1
  have HW := Lib.hid hW1
  have HX := Lib.hid hx1
  have HBO := Lib.hid (rBody_any p D (hD.mono hb1) hR hF)
  have hle := bodyP_le hR hF
  have HOC := Lib.hid (bodyP_octets ho)
  have HPL : Hid ((putP p).length = (bodyP p).length + 4) := Lib.hid (by unfold putP; rw [List.length_append, le4_length])
  have HPE : Hid (putP p = bodyP p ++ le4 (crcSum (bodyP p))) := Lib.hid rfl
  unfold pktV pktC at HBO
  unfold pktC at HW
  unfold pktV pktC
  clear hW1 hb1 hx1 hD ho hR hF
  generalize bodyP p = B at *
  generalize putP p = Z at *
  go_enter Tryd.func13, Tryd.ntmps13
  go_upto_region 1 with fail
  rw [← HW.out]
  go_wp2_with ((with_reducible show wpList _ _ _ (⟨some 3, _, _, _, _, _⟩ :: _) _ _); refine wpList_load_row rfl 26 (.tmp 1) rfl w.heap.size rfl 26 (pktC p D) (0, 0) _ HX.out Tryd.underlying26 rfl (by kernel_rfl) ?_; unfold pktC)
  refine HBO.out.mono ?_
  rintro e w2 ⟨v2, rfl, ho2, hb2⟩
  have HB2 := Lib.hid (HB.out.trans (hb2.mono HB.out.size))
  have HL2 := Lib.hid (ListAt.of_owns (f := byteV) (l := B) ho2)
  have HA := Lib.hid (ckAdd_any _ _ HL2.out HOC.out (by omega))
  clear ho2 hb2
  go_wp2_with fail
  refine HA.out.mono ?_
  rintro e w3 ⟨v3, rfl, ho3, hb3⟩
  have HB3 := Lib.hid (HB2.out.trans (hb3.mono HB2.out.size))
  have HO3 := Lib.hid (ownsRow_base ho3 HB2.out.size)
  clear ho3 hb3
  go_wp2_with fail
  go_ret
  refine ⟨_, rfl, ?_, HB3.out⟩
  rw [HPL.out, HPE.out]
  exact HO3.out

theorem numA_step (c : List Nat) (a t : Nat) (h : a + t < c.length) : numA c a (t + 1) = 256 * numA c a t + c.getD (a + t) 0 := by
  unfold numA
  have hl : t < (c.drop a).length := by rw [List.length_drop]; omega
  rw [List.take_add_one, List.getElem?_eq_getElem hl, List.getElem_drop]
  show valN (_ ++ [_]) = _
  rw [valN_snoc, List.getD_eq_getElem?_getD, List.getElem?_eq_getElem h]
  rfl
theorem numA_stop (c : List Nat) (a t k : Nat) (h : c.length ≤ a + t) (ht : t ≤ k) : numA c a k = numA c a t := by
  unfold numA
  rw [List.take_of_length_le (by rw [List.length_drop]; omega), List.take_of_length_le (by rw [List.length_drop]; omega)]
theorem numA_lt (c : List Nat) (ho : Octets c) (a t : Nat) : numA c a t < 256 ^ t := by
  unfold numA
  have h := valN_lt ((c.drop a).take t) fun x hx => ho x (List.mem_of_mem_drop (List.mem_of_mem_take hx))
  exact Nat.lt_of_lt_of_le h (Nat.pow_le_pow_right (by decide) (by rw [List.length_take]; omega))

set_option maxRecDepth 1000000 in
set_option maxHeartbeats 4000000 in
theorem rNumber_any {w : World} (v : Value) (c : List Nat) (a k : Nat) (h : ListAt byteV w v c) (ho : Octets c) (ha : a ≤ 100) (hk : k ≤ 5) : Calls Tryd.prog 58 #[v, .int .i64 (a : Int), .int .i64 (k : Int)] w fun e w' =>
    e = .returned (.int .i64 ((numA c a k : Nat) : Int)) ∧ w' = w := by
  have hlen := h.len
  obtain ⟨ad, cap, rfl, -, -, hcell⟩ := h
  have HC := Lib.hid hcell
  have HO := Lib.hid ho
  have HN0 : Hid (numA c a 0 = 0) := Lib.hid rfl
  have HNS := Lib.hid (numA_step c a)
  have HNT := Lib.hid (numA_stop c a)
  have HNL : Hid (∀ t, t ≤ 5 → numA c a t < 1099511627776) := Lib.hid fun t ht => Nat.lt_of_lt_of_le (numA_lt c ho a t) (show 256 ^ t ≤ 256 ^ 5 from Nat.pow_le_pow_right (by decide) ht)
  have hak : IntKind.i64.wrap ((a : Int) + (k : Int)) = (a : Int) + (k : Int) := IntWalk.i64_in _ (by omega)
  clear hcell ho
  go_enter Tryd.func58, Tryd.ntmps58
  go_wp2_with fail
  go_loopw [7, 8] (fun n i wr => ∃ t : Nat, t ≤ k ∧ i = .int .i64 ((a + t : Nat) : Int) ∧ n = .int .i64 ((numA c a t : Nat) : Int) ∧ wr = w) (fun _ i _ => a + k - (intOf i).toNat)
  case atStart => exact ⟨0, by omega, rfl, by rw [HN0.out]; rfl, rfl⟩
  case round =>
    obtain ⟨t, ht, rfl, rfl, rfl⟩ := hrel
    have hnl := HNL.out t (by omega)
    by_cases hlt : t < k
    · have d1 : decide (((a + t : Nat) : Int) < (a : Int) + (k : Int)) = true := decide_eq_true (by omega)
      have d1' : decide ((a : Int) + (t : Int) < (a : Int) + (k : Int)) = true := decide_eq_true (by omega)
      by_cases hin : a + t < c.length
      · have d2 : decide (((a + t : Nat) : Int) < (c.length : Int)) = true := decide_eq_true (by omega)
        obtain ⟨b, off, rfl, hcc⟩ := HC.out (by omega)
        have hx := hcc (a + t) hin
        have hy : c.getD (a + t) 0 < 256 := HO.out.getD (a + t)
        have hcell : wr.cell? ⟨b, off + (a + t), none⟩ = some (byteV (c.getD (a + t) 0)) := by
          rw [hx]; simp [List.getD_eq_getElem?_getD, hin]
        have q1 : wr.cell? ⟨b, off + (a + t), none⟩ = some (.int .u8 ((c.getD (a + t) 0 : Nat) : Int)) := hcell
        have HST := Lib.hid (HNS.out t hin)
        clear hcc hx hcell
        obtain ⟨s, hs⟩ : ∃ s, s = a + t := ⟨_, rfl⟩
        rw [← hs] at q1 hin d1 d2 hy HST ⊢
        generalize c.getD s 0 = y at *
        generalize numA c a t = n at *
        clear d1'
        have hsum : 256 * (n : Int) + (y : Int) = ((256 * n + y : Nat) : Int) := by omega
        have hs2 : (s : Int) + 1 = ((a + (t + 1) : Nat) : Int) := by omega
        have hsl : s ≤ 200 := by omega
        have hsk : s < a + k := by omega
        have HS2 := Lib.hid hs2
        have HSUM := Lib.hid hsum
        have hw : IntKind.i64.wrap (256 * (n : Int) + (y : Int)) = 256 * (n : Int) + (y : Int) := IntWalk.i64_in _ (by omega)
        clear hs2 hs hsum
        go_wp2
        go_roundw
        case rel => exact ⟨t + 1, hlt, by rw [← HS2.out], by rw [HST.out, ← HSUM.out], trivial⟩
        case measure => simp [intOf]; omega
      · have d2 : decide (((a + t : Nat) : Int) < (c.length : Int)) = false := decide_eq_false (by omega)
        have HE : Hid (numA c a k = numA c a t) := Lib.hid (HNT.out t k (by omega) ht)
        obtain ⟨s, hs⟩ : ∃ s, s = a + t := ⟨_, rfl⟩
        have d1s : decide ((s : Int) < (a : Int) + (k : Int)) = true := decide_eq_true (by omega)
        rw [← hs] at d1 d2 hin ⊢
        clear hs d1'
        generalize numA c a t = n at *
        go_wp2
        go_ret
        exact ⟨by rw [HE.out]; rfl, rfl⟩
    · obtain rfl : t = k := by omega
      have d1 : decide (((a + t : Nat) : Int) < (a : Int) + (t : Int)) = false := decide_eq_false (by omega)
      obtain ⟨s, hs⟩ : ∃ s, s = a + t := ⟨_, rfl⟩
      have d1s : decide ((s : Int) < (a : Int) + (t : Int)) = false := decide_eq_false (by omega)
      rw [← hs] at d1 ⊢
      clear hs
      generalize hq : numA c a t = n at *
      have HQ := Lib.hid hq
      clear hq
      go_wp2
      go_ret
      exact ⟨by rw [HQ.out]; rfl, rfl⟩
end Go.Proofs.YtmihpbdgilmdiaaDoor
end
