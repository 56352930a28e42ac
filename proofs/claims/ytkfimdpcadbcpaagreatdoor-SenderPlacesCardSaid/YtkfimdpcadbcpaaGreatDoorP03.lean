import Derived.Test.YtkfimdpcadbcpaaGreatDoorP02
import Derived.Deep.AppendLies
import Derived.Test.YtkfimdpcadbcpaaGreatDoorChecked
import Derived.WalkKit
import Derived.LaidEql
import Derived.Stop.Asserts
import Derived.RowKitTokens
import Derived.Lib.Hide
import Derived.Elder7
import Derived.Defers
import Derived.Recover
import Derived.Laws.Pointers
import Derived.Lib.SlBytesConst
import Derived.ProofKit
import Derived.OpenShut
import Derived.Laws.AppendOwn
import Derived.Laws.OwnMore
import Derived.Laws.MakeOwn
import Derived.Laws.CopyOwn
import Derived.Lib.AppendZerosOnto
import Derived.Lib.AppendZeros
import Derived.Laws.Append
import Derived.Lib.LazyBuf
import Derived.BigQuiet
import Derived.Test.YtkfimdpcadbcpaaGreatDoorP01
import Derived.Deep.Cut
import Derived.Test.YtkfimdpcadbcpaaGreatDoorA33
set_option linter.unusedSimpArgs false
set_option linter.unusedVariables false
set_option maxRecDepth 1000000
set_option maxHeartbeats 8000000
namespace Go.Proofs.YtkfimdpcadbcpaaGreatDoor
section
open Go.RowKit Go.Extern.Stop Go.Stop Go.Extern
theorem yA7 {p : Pkt} (h : RangedP p) : LayL (headN p) := by
  have h1 := h.k1; have h2 := h.k2; have h3 := h.s1; have h4 := h.s2; have h5 := h.l1; have h6 := h.l2; have h7 := h.t1; have h8 := h.t2
  intro x hx
  simp [headN] at hx
  rcases hx with rfl | rfl | rfl | rfl <;> refine ⟨⟨?_, ?_⟩, ?_, ?_⟩ <;> simp only [] <;> omega
theorem yBV {p : Pkt} (hk : p.kind = 1) (h : RangedP p) : LayL (dataN p) := by
  obtain ⟨⟨h1, h2⟩, ⟨h3, h4⟩, ⟨h5, h6⟩, ⟨h7, h8⟩, h9, h10⟩ := h.d hk
  intro x hx
  simp [dataN] at hx
  rcases hx with rfl | rfl | rfl | rfl | rfl <;> refine ⟨⟨?_, ?_⟩, ?_, ?_⟩ <;> simp only [] <;> omega
theorem yAz (p : Pkt) : bytesN (headN p) = wrHeadB p := by
  show (beN 1 p.kind.toNat ++ (beN 2 p.session.toNat ++ (beN 1 p.layer.toNat ++ (beN 5 p.tick.toNat ++ [])))) = _
  rw [List.append_nil]; rfl
theorem yBe (p : Pkt) : bytesN (dataN p) = beN 1 (p.sync + 1).toNat ++ (beN 2 p.many.toNat ++ (beN 2 p.place.toNat ++ (beN 1 p.block.toNat ++ beN 2 p.esi.toNat))) := by
  show (beN 1 (p.sync + 1).toNat ++ (beN 2 p.many.toNat ++ (beN 2 p.place.toNat ++ (beN 1 p.block.toNat ++ (beN 2 p.esi.toNat ++ []))))) = _
  rw [List.append_nil]
theorem yBi {w : World} (p : Pkt) (D : Value) (hk : p.kind = 1) (hD : ListAt byteV w D p.data) (hR : RangedP p) (hF : FormP p) : Calls Tryz.prog 46 #[pktV p D] w fun e w' =>
    ∃ v', e = .returned v' ∧ w'.ownsRow w.heap.size 5 1 v' (bodyD p).length ((bodyD p).map byteV) ∧ Below w.heap.size w w' := by
  obtain ⟨i0, hi0, hz0, hz1, hz2⟩ := info_parts zAY
  obtain ⟨W1, hW1, hb1, hx1⟩ := zAz w p D
  have HB := lhd hb1
  have HW := lhd hW1
  have HX := lhd hx1
  have HD := lhd hD
  have hdl : p.data.length ≤ 64 := ((hF.d hk).2).2.2.2.2.2
  obtain ⟨⟨y1, y2⟩, -⟩ := hR.d hk
  have HH : Hid (∀ V : World, Calls Tryz.prog 77 #[.agg (pktC p D)] V fun e w' => ∃ v, e = .returned v ∧ NumsAt w' v (headN p) ∧ Below V.heap.size V w') := lhd fun V => yAv p D
  have HDA : Hid (∀ V : World, Calls Tryz.prog 78 #[.agg (pktC p D)] V fun e w' => ∃ v, e = .returned v ∧ NumsAt w' v (dataN p) ∧ Below V.heap.size V w') := lhd fun V => yAK p D y1 y2
  have HAL : Hid (∀ (V : World) (v : Value) (L : List Num4), NumsAt V v L → L.length ≤ 100 → LayL L → Calls Tryz.prog 76 #[v] V fun e w' => ∃ v', e = .returned v' ∧ w'.ownsRow V.heap.size 5 1 v' (bytesN L).length ((bytesN L).map byteV) ∧ Below V.heap.size V w') := lhd fun V v L h h1 h2 => yA5 v L h h1 h2
  have HLH := lhd (yA7 hR)
  have HLD := lhd (yBV hk hR)
  have HBH := lhd (yAz p)
  have HBD := lhd (yBe p)
  have e1 : (p.kind == 1) = true := by simp [hk]
  have HBody : Hid (bodyD p = wrHeadB p ++ (([(p.sync + 1).toNat + (if p.burst then 128 else 0)] ++ (beN 2 p.many.toNat ++ (beN 2 p.place.toNat ++ (beN 1 p.block.toNat ++ beN 2 p.esi.toNat)))) ++ p.data)) := lhd (by
    unfold bodyD
    rw [yAj _ (by split <;> omega)]
    simp only [List.append_assoc])
  have HB1 : Hid (beN 1 (p.sync + 1).toNat = [(p.sync + 1).toNat]) := lhd (yAj _ (by omega))
  have HHL := lhd (zCx p)
  have HTL : Hid ((beN 2 p.many.toNat ++ (beN 2 p.place.toNat ++ (beN 1 p.block.toNat ++ beN 2 p.esi.toNat))).length = 7) := lhd (by simp [zBc])
  obtain ⟨ad, cd, hDe, -, -, -⟩ := HD.out
  subst hDe
  unfold pktC at HW HH HDA
  unfold pktV pktC
  clear hW1 hb1 hx1 hD hF hR hk
  go_enter Tryz.func46, Tryz.ntmps46
  go_upto_region 1 with fail
  rw [← HW.out]
  go_wp2_with ((with_reducible show wpList _ _ _ (⟨some 5, _, _, _, _, _⟩ :: _) _ _); refine wpList_load_row rfl 63 (.tmp 1) rfl w.heap.size rfl 63 (pktC p (.slice ad p.data.length cd)) (0, 0) _ HX.out Tryz.underlying63 rfl (by kernel_rfl) ?_; unfold pktC)
  refine (HH.out _).mono ?_
  rintro e w2 ⟨v2, rfl, hn2, hb2⟩
  have HV2 := lhd hb2
  have HX2 := lhd (HX.out.mono hb2)
  have HC2 := lhd (HAL.out w2 v2 _ hn2 (show 4 ≤ 100 by decide) HLH.out)
  rw [HBH.out] at HC2
  clear hn2 hb2
  go_wp2_with fail
  refine HC2.out.mono ?_
  rintro e w3 ⟨v3, rfl, ho3, hb3⟩
  have HV3 := lhd (HV2.out.trans (hb3.mono HV2.out.size))
  have HX3 := lhd (HX2.out.mono hb3)
  have HO3 := lhd (zAd ho3 HV2.out.size)
  obtain ⟨a3, c3, rfl, -, -⟩ := zAe ho3
  obtain ⟨c0, -⟩ := HX3.out.cells
  clear ho3 hb3
  go_wp2_with ((with_reducible show wpList _ _ _ (⟨some 11, _, _, _, _, _⟩ :: _) _ _); refine wpList_load_row rfl 63 (.tmp 1) rfl w.heap.size rfl 63 (pktC p (.slice ad p.data.length cd)) (0, 0) _ HX3.out Tryz.underlying63 rfl (by kernel_rfl) ?_; unfold pktC)
  refine (HDA.out _).mono ?_
  rintro e w4 ⟨v4, rfl, hn4, hb4⟩
  have HV4 := lhd (HV3.out.trans (hb4.mono HV3.out.size))
  have HX4 := lhd (HX3.out.mono hb4)
  have HO4 := lhd (zAh HO3.out hb4)
  have HC4 := lhd (HAL.out w4 v4 _ hn4 (show 5 ≤ 100 by decide) HLD.out)
  rw [HBD.out, HB1.out] at HC4
  clear hn4 hb4 c0
  go_wp2_with fail
  refine HC4.out.mono ?_
  rintro e w5 ⟨v5, rfl, ho5, hb5⟩
  have HB45 := lhd hb5
  have HX5 := lhd (HX4.out.mono hb5)
  have HM5 := lhd ho5
  have hml : ([(p.sync + 1).toNat] ++ (beN 2 p.many.toNat ++ (beN 2 p.place.toNat ++ (beN 1 p.block.toNat ++ beN 2 p.esi.toNat)))).length = 8 := by rw [List.length_append, HTL.out]; rfl
  rw [hml] at HM5
  obtain ⟨g5, c5, rfl, hg1, hg2⟩ := HM5.out.form (by omega)
  obtain ⟨c0, -, -, -, c4, -⟩ := HX5.out.cells
  generalize beN 2 p.many.toNat ++ (beN 2 p.place.toNat ++ (beN 1 p.block.toNat ++ beN 2 p.esi.toNat)) = T at *
  obtain ⟨y, hy⟩ : ∃ y, y = (p.sync + 1).toNat := ⟨_, rfl⟩
  rw [← hy] at HM5 HBody
  have hy9 : y ≤ 8 := by omega
  have hT7 : T.length = 7 := HTL.out
  have hHl : (wrHeadB p).length = 9 := HHL.out
  generalize wrHeadB p = H at *
  clear ho5 hb5 HC4 HB1 hml hy
  cases hbu : p.burst with
  | false =>
    rw [hbu] at c4 HBody
    obtain ⟨x, hx⟩ : ∃ x, x = y := ⟨_, rfl⟩
    have HBody2 : Hid (bodyD p = (H ++ x :: T) ++ p.data) := lhd (by rw [HBody.out, hx]; simp)
    have HB46 : Hid (Below w4.heap.size w4 w5) := lhd HB45.out
    have HM6 : Hid (w5.ownsRow w4.heap.size 5 1 (.slice (some ⟨g5, 0, none⟩) 8 c5) 8 ((x :: T).map byteV)) := lhd (by rw [hx]; exact HM5.out)
    clear hx HBody
    go_upto_region 6 with fail
    obtain ⟨w6, hw6⟩ : ∃ w6, w6 = w5 := ⟨_, rfl⟩
    rw [← hw6] at HM6 HB46 ⊢
    clear hw6 c0 c4
    have HV6 := lhd (HV4.out.trans (HB46.out.mono HV4.out.size))
    have HO6 := lhd (zAh HO4.out HB46.out)
    rw [hHl] at HO6
    have hxT : (x :: T).length = 8 := by rw [List.length_cons, hT7]
    have HL6 := lhd (ListAt.of_owns (f := byteV) (l := x :: T) HM6.out)
    have HMV : Hid ((H ++ x :: T).map byteV = H.map byteV ++ (x :: T).map byteV) := lhd (List.map_append ..)
    have HMD : Hid (((H ++ x :: T) ++ p.data).map byteV = (H ++ x :: T).map byteV ++ p.data.map byteV) := lhd (List.map_append ..)
    have hHT : (H ++ x :: T).length = 17 := by rw [List.length_append, hHl, hxT]
    go_upto_region 7 with (at_builtin; refine zAB _ rfl (.tmp 22) (.tmp 23) 31 rfl W1.heap.size 5 i0 (.int .u8 0) 1 Tryz.underlying31 hi0 hz0 hz1 hz2 rfl (.slice a3 9 c3) 9 (H.map byteV) rfl HO6.out (.slice (some ⟨g5, 0, none⟩) 8 c5) (x :: T) rfl HL6.out (fun y _ => rfl) (by unfold maxLen; omega) (by omega) HV6.out.size ?_; intro v7 w7 ho7 hg7; have HO7 := lhd ho7; have HV7 := lhd (HV6.out.grown hg7 HV6.out.size (fun k hk => (HO6.out.lt k hk).1)); clear ho7 hg7)
    rw [hxT, ← HMV.out] at HO7
    have HX7 := lhd (HX.out.mono HV7.out)
    have HD7 := lhd (HD.out.mono (HB.out.trans (HV7.out.mono HB.out.size)))
    obtain ⟨-, -, -, -, -, -, -, -, -, -, c10, -⟩ := HX7.out.cells
    obtain ⟨a7, c7, hv7, -, -⟩ := zAe HO7.out
    subst hv7
    generalize (H ++ x :: T).map byteV = Z at *
    go_wp2_with (at_builtin; refine zAB _ rfl (.tmp 25) (.tmp 27) 31 rfl W1.heap.size 5 i0 (.int .u8 0) 1 Tryz.underlying31 hi0 hz0 hz1 hz2 rfl (.slice a7 (9 + 8) c7) (9 + 8) Z rfl HO7.out (.slice ad p.data.length cd) p.data rfl HD7.out (fun y _ => rfl) (by unfold maxLen; omega) (by omega) HV7.out.size ?_; intro v8 w8 ho8 hg8; have HO8 := lhd ho8; have HV8 := lhd (HV7.out.grown hg8 HV7.out.size (fun k hk => (HO7.out.lt k hk).1)); clear ho8 hg8)
    go_ret
    refine ⟨_, rfl, ?_, HB.out.trans (HV8.out.mono HB.out.size)⟩
    have h := zAd HO8.out HB.out.size
    rw [HBody2.out, List.length_append, hHT, HMD.out]
    exact h
  | true =>
    rw [hbu] at c4 HBody
    obtain ⟨x, hx⟩ : ∃ x, x = y + 128 := ⟨_, rfl⟩
    have HBody2 : Hid (bodyD p = (H ++ x :: T) ++ p.data) := lhd (by rw [HBody.out, hx]; simp)
    have q1 : w5.cell? ⟨g5, 0, none⟩ = some (.int .u8 (y : Int)) := by
      rw [HM5.out.cellAt 0 (by omega)]; rfl
    have f1 : w5.frozen? ⟨g5, 0, none⟩ = false := HM5.out.frozenAt 0
    have hcv : IntKind.u8.wrap ((y : Int) + 128) = (x : Int) := by rw [IntKind.wrap_u8]; omega
    have hcm : ((y : Int) + 128) % 256 = (x : Int) := by omega
    have HB46 : Hid (Below w4.heap.size w4 (w5.setCell ⟨g5, 0, none⟩ (.int .u8 (x : Int)))) := lhd (HB45.out.setCell (p := ⟨g5, 0, none⟩) hg1 _)
    have HM6 : Hid ((w5.setCell ⟨g5, 0, none⟩ (.int .u8 (x : Int))).ownsRow w4.heap.size 5 1 (.slice (some ⟨g5, 0, none⟩) 8 c5) 8 ((x :: T).map byteV)) := lhd ((HM5.out.stored 0 (.int .u8 (x : Int))).1)
    clear hx HBody
    go_upto_region 6 with fail
    obtain ⟨w6, hw6⟩ : ∃ w6, w6 = w5.setCell ⟨g5, 0, none⟩ (.int .u8 (x : Int)) := ⟨_, rfl⟩
    rw [← hw6] at HM6 HB46 ⊢
    clear hw6 c0 c4 q1 f1 hcv hcm
    have HV6 := lhd (HV4.out.trans (HB46.out.mono HV4.out.size))
    have HO6 := lhd (zAh HO4.out HB46.out)
    rw [hHl] at HO6
    have hxT : (x :: T).length = 8 := by rw [List.length_cons, hT7]
    have HL6 := lhd (ListAt.of_owns (f := byteV) (l := x :: T) HM6.out)
    have HMV : Hid ((H ++ x :: T).map byteV = H.map byteV ++ (x :: T).map byteV) := lhd (List.map_append ..)
    have HMD : Hid (((H ++ x :: T) ++ p.data).map byteV = (H ++ x :: T).map byteV ++ p.data.map byteV) := lhd (List.map_append ..)
    have hHT : (H ++ x :: T).length = 17 := by rw [List.length_append, hHl, hxT]
    go_upto_region 7 with (at_builtin; refine zAB _ rfl (.tmp 22) (.tmp 23) 31 rfl W1.heap.size 5 i0 (.int .u8 0) 1 Tryz.underlying31 hi0 hz0 hz1 hz2 rfl (.slice a3 9 c3) 9 (H.map byteV) rfl HO6.out (.slice (some ⟨g5, 0, none⟩) 8 c5) (x :: T) rfl HL6.out (fun y _ => rfl) (by unfold maxLen; omega) (by omega) HV6.out.size ?_; intro v7 w7 ho7 hg7; have HO7 := lhd ho7; have HV7 := lhd (HV6.out.grown hg7 HV6.out.size (fun k hk => (HO6.out.lt k hk).1)); clear ho7 hg7)
    rw [hxT, ← HMV.out] at HO7
    have HX7 := lhd (HX.out.mono HV7.out)
    have HD7 := lhd (HD.out.mono (HB.out.trans (HV7.out.mono HB.out.size)))
    obtain ⟨-, -, -, -, -, -, -, -, -, -, c10, -⟩ := HX7.out.cells
    obtain ⟨a7, c7, hv7, -, -⟩ := zAe HO7.out
    subst hv7
    generalize (H ++ x :: T).map byteV = Z at *
    go_wp2_with (at_builtin; refine zAB _ rfl (.tmp 25) (.tmp 27) 31 rfl W1.heap.size 5 i0 (.int .u8 0) 1 Tryz.underlying31 hi0 hz0 hz1 hz2 rfl (.slice a7 (9 + 8) c7) (9 + 8) Z rfl HO7.out (.slice ad p.data.length cd) p.data rfl HD7.out (fun y _ => rfl) (by unfold maxLen; omega) (by omega) HV7.out.size ?_; intro v8 w8 ho8 hg8; have HO8 := lhd ho8; have HV8 := lhd (HV7.out.grown hg8 HV7.out.size (fun k hk => (HO7.out.lt k hk).1)); clear ho8 hg8)
    go_ret
    refine ⟨_, rfl, ?_, HB.out.trans (HV8.out.mono HB.out.size)⟩
    have h := zAd HO8.out HB.out.size
    rw [HBody2.out, List.length_append, hHT, HMD.out]
    exact h
end

section
open Go.RowKit Go.Extern.Stop Go.Stop Go.Extern
theorem yBH (w : World) (a b c d f : Value) (e : TypeId) : ListAt id (w.alloc (.cells #[a, b, c, d, f] e)) (.slice (some ⟨w.heap.size, 0, none⟩) 5 5) [a, b, c, d, f] :=
  ListAt.of_owns (f := id) (l := [a, b, c, d, f]) (zAq (base := 0) (n := 5) (g := w.heap.size) (e := e) (xs := [a, b, c, d, f].map id) (Nat.zero_le _) rfl (by decide) (heap_alloc_new w _))
theorem yA9 {w : World} (p : Pkt) (D : Value) (hk : p.kind = 2) (hR : RangedP p) (hF : FormP p) : Calls Tryz.prog 46 #[pktV p D] w fun e w' =>
    ∃ v', e = .returned v' ∧ w'.ownsRow w.heap.size 5 1 v' (bodyA p).length ((bodyA p).map byteV) ∧ Below w.heap.size w w' := by
  obtain ⟨i0, hi0, hz0, hz1, hz2⟩ := info_parts zAY
  obtain ⟨W1, hW1, hb1, hx1⟩ := zAz w p D
  have HB := lhd hb1
  have HW := lhd hW1
  have HX := lhd hx1
  obtain ⟨-, z1, ⟨y1, y2⟩, ⟨e1, e2⟩, ⟨b1, b2⟩, ⟨n1, n2⟩⟩ := hR.a hk
  obtain ⟨-, -, -, -, -, -, -, f8⟩ := hF.a hk
  obtain ⟨s, b, n, l, q, g1, g2, g3, g4, g5, hp⟩ := zDS f8
  have r1 := hp.b64; have r2 := hp.n16; have r3 := hp.lt; have r4 := hp.q128
  obtain ⟨ly, hly⟩ : ∃ x : Nat, p.layers = (x : Int) := ⟨p.layers.toNat, by omega⟩
  obtain ⟨es, hes⟩ : ∃ x : Nat, p.esis = ((x + 1 : Nat) : Int) := ⟨(p.esis - 1).toNat, by omega⟩
  obtain ⟨ba, hba⟩ : ∃ x : Nat, p.base = (x : Int) := ⟨p.base.toNat, by omega⟩
  obtain ⟨le, hle⟩ : ∃ x : Nat, p.length = (x : Int) := ⟨p.length.toNat, by omega⟩
  have HH : Hid (∀ V : World, Calls Tryz.prog 77 #[.agg (pktC p D)] V fun e w' => ∃ v, e = .returned v ∧ NumsAt w' v (headN p) ∧ Below V.heap.size V w') := lhd fun V => yAv p D
  have HAL : Hid (∀ (V : World) (v : Value) (L : List Num4), NumsAt V v L → L.length ≤ 100 → LayL L → Calls Tryz.prog 76 #[v] V fun e w' => ∃ v', e = .returned v' ∧ w'.ownsRow V.heap.size 5 1 v' (bytesN L).length ((bytesN L).map byteV) ∧ Below V.heap.size V w') := lhd fun V v L h h1 h2 => yA5 v L h h1 h2
  have HLY : Hid (∀ (n k : Nat), n ≤ 9223372036854775807 → k ≤ 100 → ∀ V : World, Calls Tryz.prog 79 #[.int .i64 (n : Int), .int .i64 (k : Int)] V fun e w' => ∃ g, e = .returned (.slice (some ⟨g, 0, none⟩) k k) ∧ w'.ownsRow V.heap.size 5 1 (.slice (some ⟨g, 0, none⟩) k k) k ((beN k n).map byteV) ∧ Below V.heap.size V w') := lhd fun n k h1 h2 V => yA1 n k h1 h2
  have HLH := lhd (yA7 hR)
  have HBH := lhd (yAz p)
  have t1 : (p.kind == 1) = false := by simp [hk]
  have HBody : Hid (bodyA p = ((((wrHeadB p ++ beN 4 s) ++ [b, n, l, q, ly]) ++ beN 2 es) ++ beN 2 ba) ++ beN 2 le) := lhd (by
    unfold bodyA
    rw [g1, g2, g3, g4, g5, hly, hes, hba, hle, show (((es + 1 : Nat) : Int) - 1).toNat = es by omega]
    simp only [Int.toNat_natCast]
    rw [yAj b (by omega), yAj n (by omega), yAj l (by omega), yAj q (by omega), yAj ly (by omega)]
    simp only [List.append_assoc, List.cons_append, List.nil_append])
  have HBL : Hid (∀ k n, (beN k n).length = k) := lhd zBc
  have hHl : (wrHeadB p).length = 9 := zCx p
  have HBLA := lhd (zE3 p)
  have HC : Hid (∀ V, PktBox V w.heap.size p D → V.cell? ⟨w.heap.size, 0, none⟩ = some (.int .i64 p.kind) ∧ V.cell? ⟨w.heap.size, 11, none⟩ = some (.int .i64 (s : Int)) ∧ V.cell? ⟨w.heap.size, 12, none⟩ = some (.int .i64 (b : Int)) ∧ V.cell? ⟨w.heap.size, 13, none⟩ = some (.int .i64 (n : Int)) ∧ V.cell? ⟨w.heap.size, 14, none⟩ = some (.int .i64 (l : Int)) ∧ V.cell? ⟨w.heap.size, 15, none⟩ = some (.int .i64 (q : Int)) ∧ V.cell? ⟨w.heap.size, 16, none⟩ = some (.int .i64 (ly : Int)) ∧ V.cell? ⟨w.heap.size, 17, none⟩ = some (.int .i64 ((es + 1 : Nat) : Int)) ∧ V.cell? ⟨w.heap.size, 18, none⟩ = some (.int .i64 (ba : Int)) ∧ V.cell? ⟨w.heap.size, 19, none⟩ = some (.int .i64 (le : Int))) := lhd fun V h => by
    have h2 := h.cells
    refine ⟨h2.c0, ?_, ?_, ?_, ?_, ?_, ?_, ?_, ?_, ?_⟩
    · rw [← g1]; exact h2.c11
    · rw [← g2]; exact h2.c12
    · rw [← g3]; exact h2.c13
    · rw [← g4]; exact h2.c14
    · rw [← g5]; exact h2.c15
    · rw [← hly]; exact h2.c16
    · rw [← hes]; exact h2.c17
    · rw [← hba]; exact h2.c18
    · rw [← hle]; exact h2.c19
  have k1 : s ≤ 4294967295 := by omega
  have k2 : b ≤ 255 := by omega
  have k3 : n ≤ 255 := by omega
  have k4 : l ≤ 255 := by omega
  have k5 : q ≤ 255 := by omega
  have k6 : ly ≤ 255 := by omega
  have k7 : es ≤ 65535 := by omega
  have k8 : ba ≤ 65535 := by omega
  have k9 : le ≤ 65535 := by omega
  have HLS := lhd (HLY.out s 4 (by omega) (by decide))
  have HLE := lhd (HLY.out es 2 (by omega) (by decide))
  have HLB := lhd (HLY.out ba 2 (by omega) (by decide))
  have HLL := lhd (HLY.out le 2 (by omega) (by decide))
  have hsub : ((es + 1 : Nat) : Int) - 1 = (es : Int) := by omega
  have hsub2 : (es : Int) + 1 - 1 = (es : Int) := by omega
  unfold pktC at HW HH
  unfold pktV pktC
  clear hW1 hb1 hx1 hF hR hk z1 y1 y2 e1 e2 b1 b2 n1 n2 f8 g1 g2 g3 g4 g5 hp r1 r2 r3 r4 hly hes hba hle HLY
  go_enter Tryz.func46, Tryz.ntmps46
  go_upto_region 1 with fail
  rw [← HW.out]
  go_wp2_with ((with_reducible show wpList _ _ _ (⟨some 5, _, _, _, _, _⟩ :: _) _ _); refine wpList_load_row rfl 63 (.tmp 1) rfl w.heap.size rfl 63 (pktC p D) (0, 0) _ HX.out Tryz.underlying63 rfl (by kernel_rfl) ?_; unfold pktC)
  refine (HH.out _).mono ?_
  rintro e w2 ⟨v2, rfl, hn2, hb2⟩
  have HV2 := lhd hb2
  have HX2 := lhd (HX.out.mono hb2)
  have HC2 := lhd (HAL.out w2 v2 _ hn2 (show 4 ≤ 100 by decide) HLH.out)
  rw [HBH.out, hHl] at HC2
  clear hn2 hb2
  go_wp2_with fail
  refine HC2.out.mono ?_
  rintro e w3 ⟨v3, rfl, ho3, hb3⟩
  have HV3 := lhd (HV2.out.trans (hb3.mono HV2.out.size))
  have HX3 := lhd (HX2.out.mono hb3)
  have HO3 := lhd (zAd ho3 HV2.out.size)
  generalize wrHeadB p = H at *
  obtain ⟨c0, c11, c12, c13, c14, c15, c16, c17, c18, c19⟩ := HC.out _ HX3.out
  obtain ⟨a3, q3, hv3, -, -⟩ := zAe HO3.out
  subst hv3
  clear ho3 hb3
  go_wp2_with fail
  refine (HLS.out _).mono ?_
  rintro e w4 ⟨g4, rfl, ho4, hb4⟩
  have HV4 := lhd (HV3.out.trans (hb4.mono HV3.out.size))
  have HO4 := lhd (zAh HO3.out hb4)
  have HL4 := lhd (ListAt.of_owns (f := byteV) (l := beN 4 s) ho4)
  have hbl4 := HBL.out 4 s
  clear ho4 hb4 c0 c11 c12 c13 c14 c15 c16 c17 c18 c19
  go_upto_region 9 with (at_builtin; refine zAB _ rfl (.tmp 29) (.tmp 33) 31 rfl W1.heap.size 5 i0 (.int .u8 0) 1 Tryz.underlying31 hi0 hz0 hz1 hz2 rfl (.slice a3 9 q3) 9 (H.map byteV) rfl HO4.out (.slice (some ⟨g4, 0, none⟩) 4 4) (beN 4 s) rfl HL4.out (fun y _ => rfl) (by  unfold maxLen; omega) (by  omega) HV4.out.size ?_; intro v5 w5 ho5 hg5; have HO5 := lhd ho5; have HV5 := lhd (HV4.out.grown hg5 HV4.out.size (fun k hk => (HO4.out.lt k hk).1)); clear ho5 hg5)
  rw [hbl4, ← List.map_append] at HO5
  have HX5 := lhd (HX.out.mono HV5.out)
  obtain ⟨c0, c11, c12, c13, c14, c15, c16, c17, c18, c19⟩ := HC.out _ HX5.out
  obtain ⟨a5, q5, hv5, -, -⟩ := zAe HO5.out
  subst hv5
  (try simp only [Nat.reduceAdd] at HO5)
  (try simp only [Nat.reduceAdd])
  have hwb : IntKind.u8.wrap (b : Int) = (b : Int) := by rw [IntKind.wrap_u8]; omega
  have hmb : (b : Int) % 256 = (b : Int) := by omega
  have hwn : IntKind.u8.wrap (n : Int) = (n : Int) := by rw [IntKind.wrap_u8]; omega
  have hmn : (n : Int) % 256 = (n : Int) := by omega
  have hwl : IntKind.u8.wrap (l : Int) = (l : Int) := by rw [IntKind.wrap_u8]; omega
  have hml : (l : Int) % 256 = (l : Int) := by omega
  have hwq : IntKind.u8.wrap (q : Int) = (q : Int) := by rw [IntKind.wrap_u8]; omega
  have hmq : (q : Int) % 256 = (q : Int) := by omega
  have hwly : IntKind.u8.wrap (ly : Int) = (ly : Int) := by rw [IntKind.wrap_u8]; omega
  have hmly : (ly : Int) % 256 = (ly : Int) := by omega
  have HS5 : Hid (W1.heap.size ≤ (w5.alloc (.cells #[.int .u8 (b : Int), .int .u8 (n : Int), .int .u8 (l : Int), .int .u8 (q : Int), .int .u8 (ly : Int)] 5)).heap.size) := lhd (by rw [World.size_alloc]; have := HV5.out.size; omega)
  go_upto_region 10 with (at_builtin; refine zAB (f := id) _ rfl (.tmp 35) (.tmp 55) 31 rfl W1.heap.size 5 i0 (.int .u8 0) 1 Tryz.underlying31 hi0 hz0 hz1 hz2 rfl (.slice a5 13 q5) 13 ((H ++ beN 4 s).map byteV) rfl (HO5.out.alloc (.cells #[.int .u8 (b : Int), .int .u8 (n : Int), .int .u8 (l : Int), .int .u8 (q : Int), .int .u8 (ly : Int)] 5)) (.slice (some ⟨w5.heap.size, 0, none⟩) 5 5) [.int .u8 (b : Int), .int .u8 (n : Int), .int .u8 (l : Int), .int .u8 (q : Int), .int .u8 (ly : Int)] rfl (yBH w5 _ _ _ _ _ _) (fun y hy => by simp at hy; rcases hy with rfl | rfl | rfl | rfl | rfl <;> rfl) (by simp only [List.length_cons, List.length_nil]; unfold maxLen; omega) (by simp only [List.length_cons, List.length_nil]; omega) HS5.out ?_; intro v6 w6 ho6 hg6; have HO6 := lhd ho6; have HV6 := lhd ((HV5.out.alloc HV5.out.size (.cells #[.int .u8 (b : Int), .int .u8 (n : Int), .int .u8 (l : Int), .int .u8 (q : Int), .int .u8 (ly : Int)] 5)).grown hg6 HS5.out (fun k hk => ((HO5.out.alloc (.cells #[.int .u8 (b : Int), .int .u8 (n : Int), .int .u8 (l : Int), .int .u8 (q : Int), .int .u8 (ly : Int)] 5)).lt k hk).1)); clear ho6 hg6)
  have HF5 : Hid ((H ++ beN 4 s).map byteV ++ [.int .u8 (b : Int), .int .u8 (n : Int), .int .u8 (l : Int), .int .u8 (q : Int), .int .u8 (ly : Int)].map id = ((H ++ beN 4 s) ++ [b, n, l, q, ly]).map byteV) := lhd (by simp [byteV])
  (try simp only [List.length_cons, List.length_nil, Nat.reduceAdd] at HO6)
  rw [HF5.out] at HO6
  clear c0 c11 c12 c13 c14 c15 c16 c17 c18 c19 hwb hmb hwn hmn hwl hml hwq hmq hwly hmly
  have HX6 := lhd (HX.out.mono HV6.out)
  obtain ⟨c0, c11, c12, c13, c14, c15, c16, c17, c18, c19⟩ := HC.out _ HX6.out
  obtain ⟨a6, q6, hv6, -, -⟩ := zAe HO6.out
  subst hv6
  (try simp only [Nat.reduceAdd] at HO6)
  (try simp only [Nat.reduceAdd])
  go_wp2_with fail
  refine (HLE.out _).mono ?_
  rintro e w7 ⟨g7, rfl, ho7, hb7⟩
  have HV7 := lhd (HV6.out.trans (hb7.mono HV6.out.size))
  have HO7 := lhd (zAh HO6.out hb7)
  have HL7 := lhd (ListAt.of_owns (f := byteV) (l := beN 2 es) ho7)
  have hbl7 := HBL.out 2 es
  clear ho7 hb7 c0 c11 c12 c13 c14 c15 c16 c17 c18 c19
  go_upto_region 11 with (at_builtin; refine zAB _ rfl (.tmp 57) (.tmp 61) 31 rfl W1.heap.size 5 i0 (.int .u8 0) 1 Tryz.underlying31 hi0 hz0 hz1 hz2 rfl (.slice a6 18 q6) 18 (((H ++ beN 4 s) ++ [b, n, l, q, ly]).map byteV) rfl HO7.out (.slice (some ⟨g7, 0, none⟩) 2 2) (beN 2 es) rfl HL7.out (fun y _ => rfl) (by  unfold maxLen; omega) (by  omega) HV7.out.size ?_; intro v8 w8 ho8 hg8; have HO8 := lhd ho8; have HV8 := lhd (HV7.out.grown hg8 HV7.out.size (fun k hk => (HO7.out.lt k hk).1)); clear ho8 hg8)
  rw [hbl7, ← List.map_append] at HO8
  have HX8 := lhd (HX.out.mono HV8.out)
  obtain ⟨c0, c11, c12, c13, c14, c15, c16, c17, c18, c19⟩ := HC.out _ HX8.out
  obtain ⟨a8, q8, hv8, -, -⟩ := zAe HO8.out
  subst hv8
  (try simp only [Nat.reduceAdd] at HO8)
  (try simp only [Nat.reduceAdd])
  go_wp2_with fail
  refine (HLB.out _).mono ?_
  rintro e w9 ⟨g9, rfl, ho9, hb9⟩
  have HV9 := lhd (HV8.out.trans (hb9.mono HV8.out.size))
  have HO9 := lhd (zAh HO8.out hb9)
  have HL9 := lhd (ListAt.of_owns (f := byteV) (l := beN 2 ba) ho9)
  have hbl9 := HBL.out 2 ba
  clear ho9 hb9 c0 c11 c12 c13 c14 c15 c16 c17 c18 c19
  go_upto_region 12 with (at_builtin; refine zAB _ rfl (.tmp 63) (.tmp 66) 31 rfl W1.heap.size 5 i0 (.int .u8 0) 1 Tryz.underlying31 hi0 hz0 hz1 hz2 rfl (.slice a8 20 q8) 20 ((((H ++ beN 4 s) ++ [b, n, l, q, ly]) ++ beN 2 es).map byteV) rfl HO9.out (.slice (some ⟨g9, 0, none⟩) 2 2) (beN 2 ba) rfl HL9.out (fun y _ => rfl) (by  unfold maxLen; omega) (by  omega) HV9.out.size ?_; intro v10 w10 ho10 hg10; have HO10 := lhd ho10; have HV10 := lhd (HV9.out.grown hg10 HV9.out.size (fun k hk => (HO9.out.lt k hk).1)); clear ho10 hg10)
  rw [hbl9, ← List.map_append] at HO10
  have HX10 := lhd (HX.out.mono HV10.out)
  obtain ⟨c0, c11, c12, c13, c14, c15, c16, c17, c18, c19⟩ := HC.out _ HX10.out
  obtain ⟨a10, q10, hv10, -, -⟩ := zAe HO10.out
  subst hv10
  (try simp only [Nat.reduceAdd] at HO10)
  (try simp only [Nat.reduceAdd])
  go_wp2_with fail
  refine (HLL.out _).mono ?_
  rintro e w11 ⟨g11, rfl, ho11, hb11⟩
  have HV11 := lhd (HV10.out.trans (hb11.mono HV10.out.size))
  have HO11 := lhd (zAh HO10.out hb11)
  have HL11 := lhd (ListAt.of_owns (f := byteV) (l := beN 2 le) ho11)
  have hbl11 := HBL.out 2 le
  clear ho11 hb11 c0 c11 c12 c13 c14 c15 c16 c17 c18 c19
  go_wp2_with (at_builtin; refine zAB _ rfl (.tmp 68) (.tmp 71) 31 rfl W1.heap.size 5 i0 (.int .u8 0) 1 Tryz.underlying31 hi0 hz0 hz1 hz2 rfl (.slice a10 22 q10) 22 (((((H ++ beN 4 s) ++ [b, n, l, q, ly]) ++ beN 2 es) ++ beN 2 ba).map byteV) rfl HO11.out (.slice (some ⟨g11, 0, none⟩) 2 2) (beN 2 le) rfl HL11.out (fun y _ => rfl) (by  unfold maxLen; omega) (by  omega) HV11.out.size ?_; intro v12 w12 ho12 hg12; have HO12 := lhd ho12; have HV12 := lhd (HV11.out.grown hg12 HV11.out.size (fun k hk => (HO11.out.lt k hk).1)); clear ho12 hg12)
  rw [hbl11, ← List.map_append] at HO12
  go_ret
  refine ⟨_, rfl, ?_, HB.out.trans (HV12.out.mono HB.out.size)⟩
  have h := zAd HO12.out HB.out.size
  rw [HBLA.out, HBody.out]
  exact h
end

section
open Go.RowKit Go.Extern.Stop Go.Stop Go.Extern
theorem yBA {w : World} (p : Pkt) (D : Value) (hD : ListAt byteV w D p.data) (hR : RangedP p) (hF : FormP p) : Calls Tryz.prog 46 #[pktV p D] w fun e w' =>
    ∃ v', e = .returned v' ∧ w'.ownsRow w.heap.size 5 1 v' (bodyP p).length ((bodyP p).map byteV) ∧ Below w.heap.size w w' := by
  unfold bodyP
  by_cases hk : p.kind = 1
  · rw [if_pos hk]; exact yBi p D hk hD hR hF
  · rw [if_neg hk]; exact yA9 p D (by have := hR.k1; have := hR.k2; omega) hR hF
theorem yBl (c : List Nat) (a t : Nat) (h : a + t < c.length) : numA c a (t + 1) = 256 * numA c a t + c.getD (a + t) 0 := by
  unfold numA
  have hl : t < (c.drop a).length := by rw [List.length_drop]; omega
  rw [List.take_add_one, List.getElem?_eq_getElem hl, List.getElem_drop]
  show valN (_ ++ [_]) = _
  rw [yAu, List.getD_eq_getElem?_getD, List.getElem?_eq_getElem h]
  rfl
theorem yBp (c : List Nat) (a t k : Nat) (h : c.length ≤ a + t) (ht : t ≤ k) : numA c a k = numA c a t := by
  unfold numA
  rw [List.take_of_length_le (by rw [List.length_drop]; omega), List.take_of_length_le (by rw [List.length_drop]; omega)]
theorem yAb (c : List Nat) (ho : Octets c) (a t : Nat) : numA c a t < 256 ^ t := by
  unfold numA
  have h := yBY ((c.drop a).take t) fun x hx => ho x (List.mem_of_mem_drop (List.mem_of_mem_take hx))
  exact Nat.lt_of_lt_of_le h (Nat.pow_le_pow_right (by decide) (by rw [List.length_take]; omega))
theorem yAa {w : World} (v : Value) (c : List Nat) (a k : Nat) (h : ListAt byteV w v c) (ho : Octets c) (ha : a ≤ 100) (hk : k ≤ 5) : Calls Tryz.prog 71 #[v, .int .i64 (a : Int), .int .i64 (k : Int)] w fun e w' =>
    e = .returned (.int .i64 ((numA c a k : Nat) : Int)) ∧ w' = w := by
  have hlen := h.len
  obtain ⟨ad, cap, rfl, -, -, hcell⟩ := h
  have HC := lhd hcell
  have HO := lhd ho
  have HN0 : Hid (numA c a 0 = 0) := lhd rfl
  have HNS := lhd (yBl c a)
  have HNT := lhd (yBp c a)
  have HNL : Hid (∀ t, t ≤ 5 → numA c a t < 1099511627776) := lhd fun t ht => Nat.lt_of_lt_of_le (yAb c ho a t) (show 256 ^ t ≤ 256 ^ 5 from Nat.pow_le_pow_right (by decide) ht)
  have hak : IntKind.i64.wrap ((a : Int) + (k : Int)) = (a : Int) + (k : Int) := IntWalk.i64_in _ (by omega)
  clear hcell ho
  go_enter Tryz.func71, Tryz.ntmps71
  go_wp2_with fail
  go_loopw [7, 8] (fun n i wr => ∃ t : Nat, t ≤ k ∧ i = .int .i64 ((a + t : Nat) : Int) ∧ n = .int .i64 ((numA c a t : Nat) : Int) ∧ wr = w) (fun _ i _ => a + k - (intOf i).toNat)
  case atStart => exact ⟨0, by omega, rfl, by rw [HN0.out]; rfl, rfl⟩
  case round =>
    obtain ⟨t, ht, rfl, rfl, rfl⟩ := hrel
    have hnl := HNL.out t (by omega)
    by_cases hlt : t < k
    · have d1 : decide (((a + t : Nat) : Int) < (a : Int) + (k : Int)) = true := decide_eq_true (by omega)
      have d1' : decide ((a : Int) + (t : Int) < (a : Int) + (k : Int)) = true := decide_eq_true (by omega)
      by_cases hin : a + t < c.length
      · have d2 : decide (((a + t : Nat) : Int) < (c.length : Int)) = true := decide_eq_true (by omega)
        obtain ⟨b, off, rfl, hcc⟩ := HC.out (by omega)
        have hx := hcc (a + t) hin
        have hy : c.getD (a + t) 0 < 256 := HO.out.getD (a + t)
        have hcell : wr.cell? ⟨b, off + (a + t), none⟩ = some (byteV (c.getD (a + t) 0)) := by
          rw [hx]; simp [List.getD_eq_getElem?_getD, hin]
        have q1 : wr.cell? ⟨b, off + (a + t), none⟩ = some (.int .u8 ((c.getD (a + t) 0 : Nat) : Int)) := hcell
        have HST := lhd (HNS.out t hin)
        clear hcc hx hcell
        obtain ⟨s, hs⟩ : ∃ s, s = a + t := ⟨_, rfl⟩
        rw [← hs] at q1 hin d1 d2 hy HST ⊢
        generalize c.getD s 0 = y at *
        generalize numA c a t = n at *
        clear d1'
        have hsum : 256 * (n : Int) + (y : Int) = ((256 * n + y : Nat) : Int) := by omega
        have hs2 : (s : Int) + 1 = ((a + (t + 1) : Nat) : Int) := by omega
        have hsl : s ≤ 200 := by omega
        have hsk : s < a + k := by omega
        have HS2 := lhd hs2
        have HSUM := lhd hsum
        have hw : IntKind.i64.wrap (256 * (n : Int) + (y : Int)) = 256 * (n : Int) + (y : Int) := IntWalk.i64_in _ (by omega)
        clear hs2 hs hsum
        go_wp2
        go_roundw
        case rel => exact ⟨t + 1, hlt, by rw [← HS2.out], by rw [HST.out, ← HSUM.out], trivial⟩
        case measure => simp [intOf]; omega
      · have d2 : decide (((a + t : Nat) : Int) < (c.length : Int)) = false := decide_eq_false (by omega)
        have HE : Hid (numA c a k = numA c a t) := lhd (HNT.out t k (by omega) ht)
        obtain ⟨s, hs⟩ : ∃ s, s = a + t := ⟨_, rfl⟩
        have d1s : decide ((s : Int) < (a : Int) + (k : Int)) = true := decide_eq_true (by omega)
        rw [← hs] at d1 d2 hin ⊢
        clear hs d1'
        generalize numA c a t = n at *
        go_wp2
        go_ret
        exact ⟨by rw [HE.out]; rfl, rfl⟩
    · obtain rfl : t = k := by omega
      have d1 : decide (((a + t : Nat) : Int) < (a : Int) + (t : Int)) = false := decide_eq_false (by omega)
      obtain ⟨s, hs⟩ : ∃ s, s = a + t := ⟨_, rfl⟩
      have d1s : decide ((s : Int) < (a : Int) + (t : Int)) = false := decide_eq_false (by omega)
      rw [← hs] at d1 ⊢
      clear hs
      generalize hq : numA c a t = n at *
      have HQ := lhd hq
      clear hq
      go_wp2
      go_ret
      exact ⟨by rw [HQ.out]; rfl, rfl⟩
end

section
theorem yBf (p : List Nat) : WholeS (p ++ le4 (crcSum p)) := by
  unfold WholeS
  rw [show (p ++ le4 (crcSum p)).length - 4 = p.length by rw [List.length_append, zH2]; omega, List.take_left']
  rfl
end

section
open Go.RowKit Go.Extern.Stop Go.Stop Go.Extern
theorem yAR {w : World} {b off cap : Nat} {l : List Nat} (h : ListAt byteV w (.slice (some ⟨b, off, none⟩) l.length cap) l) (k : Nat) (hk : k < l.length) : ListAt byteV w (.slice (some ⟨b, off + k, none⟩) (l.length - k) (cap - k)) (l.drop k) := by
  obtain ⟨a, c, he, h1, h2, h3⟩ := h
  injection he with e1 e2 e3
  subst e1 e3
  refine ⟨_, _, by rw [List.length_drop], by rw [List.length_drop]; omega, by unfold maxLen at *; omega, fun hp => ?_⟩
  obtain ⟨b', off', e, hc⟩ := h3 (by omega)
  injection e with e
  injection e with e1 e2 e3
  subst e1 e2
  refine ⟨b, off + k, rfl, fun j hj => ?_⟩
  rw [List.length_drop] at hj
  have := hc (k + j) (by omega)
  rw [← Nat.add_assoc] at this
  rw [this]
  simp
end

section
open Go.RowKit Go.Extern.Stop Go.Stop Go.Extern
theorem yAq {P : Program} {fn : Func} {p : Tmp} {ty : TypeId} (h : fn.results = #[.cell p ty]) (tmps : Array Value) (w : World) (g : Nat) (tt : TypeId) (cs : Array Value) (fr : Nat × Nat) (d : TypeDesc)
    (hp : tmps.getD p undef = .pointer (some ⟨g, 0, none⟩)) (hg : w.heap[g]? = some (.cells cs tt fr))
    (hu : P.underlying ty = some d) (hd : (match d with | .struct _ | .array _ _ => true | _ => false) = true) (hi : (P.info? ty).map (·.size) = some cs.size) :
    (results fn tmps).run P w = .ok (.agg cs) w := by
  have hp' : tmps[p]?.getD undef = .pointer (some ⟨g, 0, none⟩) := by simpa using hp
  simp [results, h, hp', asAddr, run_loadVar_row w g tt ty cs fr d hg hu hd hi]
theorem yAo (W : World) (X Y : Obj) : ((W.alloc X).alloc Y).heap[W.heap.size]? = some X :=
  (((Below.refl (W.alloc X).heap.size (W.alloc X)).alloc (Nat.le_refl _) Y).block W.heap.size (by rw [World.size_alloc]; omega)).trans (heap_alloc_new W X)
def bareP (p : Pkt) : Pkt := if p.kind = 1 then ⟨p.kind, p.session, p.layer, p.tick, p.burst, p.sync, p.many, p.place, p.block, p.esi, p.data, 0, 0, 0, 0, 0, 0, 0, 0, 0⟩ else ⟨p.kind, p.session, p.layer, p.tick, false, 0, 0, 0, 0, 0, [], p.size, p.symbol, p.blocks, p.long, p.short, p.layers, p.esis, p.base, p.length⟩
def bareD (p : Pkt) (D : Value) : Value := if p.kind = 1 then D else nilS
theorem yB3 {w : World} {p : Pkt} {D : Value} (hD : ListAt byteV w D p.data) : ListAt byteV w (bareD p D) (bareP p).data := by
  unfold bareD bareP
  split
  · exact hD
  · exact ListAt.nil _ _
theorem yBv {w : World} (p : Pkt) (D : Value) (hD : ListAt byteV w D p.data) : Calls Tryz.prog 74 #[pktV p D] w fun e w' => e = .returned (pktV (bareP p) (bareD p D)) ∧ Below w.heap.size w w' := by
  have HD := lhd hD
  obtain ⟨a, cap, rfl, -, -, -⟩ := hD
  obtain ⟨W1, hW1, hb1, hx1⟩ := zAz w p (.slice a p.data.length cap)
  have hsz : W1.heap.size = w.heap.size + 1 := by rw [hW1]; exact World.size_alloc ..
  have HW := lhd hW1
  have HSZ := lhd hsz
  have HB := lhd hb1
  obtain ⟨a0, a1, a2, a3, a4, a5, a6, a7, a8, a9, a10, a11, a12, a13, a14, a15, a16, a17, a18, a19⟩ := hx1.cells
  have HBB : Hid (∀ X Y : Obj, Below w.heap.size w ((W1.alloc X).alloc Y)) := lhd fun X Y => (HB.out.alloc HB.out.size X).alloc (by rw [World.size_alloc]; have := HB.out.size; omega) Y
  have F1 : ∀ (X : Obj) (i : Nat), (W1.alloc X).cell? ⟨w.heap.size, i, none⟩ = W1.cell? ⟨w.heap.size, i, none⟩ := fun X i => ((Below.refl W1.heap.size W1).alloc (Nat.le_refl _) X).cell (p := ⟨w.heap.size, i, none⟩) hx1.lt
  have F2 : ∀ (X Y : Obj) (i : Nat), ((W1.alloc X).alloc Y).cell? ⟨w.heap.size, i, none⟩ = W1.cell? ⟨w.heap.size, i, none⟩ := fun X Y i => (((Below.refl W1.heap.size W1).alloc (Nat.le_refl _) X).alloc (by rw [World.size_alloc]; omega) Y).cell (p := ⟨w.heap.size, i, none⟩) hx1.lt
  unfold pktC at HW
  unfold pktV pktC
  clear hW1 hb1 hx1 hsz
  by_cases hk : p.kind = 1
  · have e1 : (p.kind == 1) = true := by simp [hk]
    have HBD : Hid (bareP p = ⟨p.kind, p.session, p.layer, p.tick, p.burst, p.sync, p.many, p.place, p.block, p.esi, p.data, 0, 0, 0, 0, 0, 0, 0, 0, 0⟩) := lhd (by unfold bareP; rw [if_pos hk])
    have HBV : Hid (bareD p (.slice a p.data.length cap) = .slice a p.data.length cap) := lhd (by unfold bareD; rw [if_pos hk])
    clear hk
    go_enter Tryz.func74, Tryz.ntmps74
    go_upto_region 1 with fail
    rw [← HW.out, ← HSZ.out]
    go_wp2_with (first
      | ((with_reducible show wpList _ _ _ (⟨some 12, _, _, _, _, _⟩ :: _) _ _); refine zAk rfl 63 _ rfl #[.int .i64 p.kind, .int .i64 p.session, .int .i64 p.layer, .int .i64 p.tick, .bool false, .int .i64 0, .int .i64 0, .int .i64 0, .int .i64 0, .int .i64 0, .slice none 0 0, .int .i64 0, .int .i64 0, .int .i64 0, .int .i64 0, .int .i64 0, .int .i64 0, .int .i64 0, .int .i64 0, .int .i64 0] (by kernel_rfl) ?_)
      | ((with_reducible show wpList _ _ _ (⟨none, _, _, _, _, _⟩ :: _) _ _); refine yAe _ rfl 63 (.tmp 3) (.tmp 12) rfl rfl rfl (by kernel_rfl) (by rfl) (by kernel_rfl) ?_)
      | ((with_reducible show wpList _ _ _ (⟨some 37, _, _, _, _, _⟩ :: _) _ _); refine yAg rfl 63 (.tmp 3) rfl rfl _ Tryz.underlying63 rfl (by kernel_rfl) ?_)
      | ((with_reducible show wpList _ _ _ (⟨none, _, _, _, _, _⟩ :: _) _ _); refine yAd _ rfl 63 (.tmp 2) (.tmp 37) rfl rfl rfl (by kernel_rfl) (by rfl) (by kernel_rfl) ?_))
    refine bodyPost_ret (yAq rfl _ _ W1.heap.size 63 _ (0, 0) _ rfl (yAo W1 _ _) Tryz.underlying63 rfl (by kernel_rfl)) rfl ?_
    exact ⟨by rw [HBD.out, HBV.out], HBB.out _ _⟩
  · have e1 : (p.kind == 1) = false := by simp [hk]
    have HBD : Hid (bareP p = ⟨p.kind, p.session, p.layer, p.tick, false, 0, 0, 0, 0, 0, [], p.size, p.symbol, p.blocks, p.long, p.short, p.layers, p.esis, p.base, p.length⟩) := lhd (by unfold bareP; rw [if_neg hk])
    have HBV : Hid (bareD p (.slice a p.data.length cap) = nilS) := lhd (by unfold bareD; rw [if_neg hk])
    clear hk
    go_enter Tryz.func74, Tryz.ntmps74
    go_upto_region 1 with fail
    rw [← HW.out, ← HSZ.out]
    go_wp2_with (first
      | ((with_reducible show wpList _ _ _ (⟨some 12, _, _, _, _, _⟩ :: _) _ _); refine zAk rfl 63 _ rfl #[.int .i64 p.kind, .int .i64 p.session, .int .i64 p.layer, .int .i64 p.tick, .bool false, .int .i64 0, .int .i64 0, .int .i64 0, .int .i64 0, .int .i64 0, .slice none 0 0, .int .i64 0, .int .i64 0, .int .i64 0, .int .i64 0, .int .i64 0, .int .i64 0, .int .i64 0, .int .i64 0, .int .i64 0] (by kernel_rfl) ?_)
      | ((with_reducible show wpList _ _ _ (⟨none, _, _, _, _, _⟩ :: _) _ _); refine yAe _ rfl 63 (.tmp 3) (.tmp 12) rfl rfl rfl (by kernel_rfl) (by rfl) (by kernel_rfl) ?_)
      | ((with_reducible show wpList _ _ _ (⟨some 53, _, _, _, _, _⟩ :: _) _ _); refine yAg rfl 63 (.tmp 3) rfl rfl _ Tryz.underlying63 rfl (by kernel_rfl) ?_)
      | ((with_reducible show wpList _ _ _ (⟨none, _, _, _, _, _⟩ :: _) _ _); refine yAd _ rfl 63 (.tmp 2) (.tmp 53) rfl rfl rfl (by kernel_rfl) (by rfl) (by kernel_rfl) ?_))
    refine bodyPost_ret (yAq rfl _ _ W1.heap.size 63 _ (0, 0) _ rfl (yAo W1 _ _) Tryz.underlying63 rfl (by kernel_rfl)) rfl ?_
    exact ⟨by rw [HBD.out, HBV.out], HBB.out _ _⟩
end
end Go.Proofs.YtkfimdpcadbcpaaGreatDoor
