/- The landed package wire: readData (layer 16). -/
import Derived.Test.YtmihpbdgilmdiaaJ3
import Derived.BigRegion
namespace Go.Proofs.Ytmihpbdgilmdiaa
open Go.RowKit Go.Extern.Stop Go.Stop Go.Extern

theorem wl_row1 {P : Program} {fn : Func} {p : Tmp} {ty : TypeId} (h : fn.results = #[.cell p ty]) (tmps : Array Value) (w : World) (g : Nat) (tt : TypeId) (cs : Array Value) (fr : Nat × Nat) (d : TypeDesc)
    (hp : tmps.getD p undef = .pointer (some ⟨g, 0, none⟩)) (hg : w.heap[g]? = some (.cells cs tt fr))
    (hu : P.underlying ty = some d) (hd : (match d with | .struct _ | .array _ _ => true | _ => false) = true) (hi : (P.info? ty).map (·.size) = some cs.size) :
    (results fn tmps).run P w = .ok (.agg cs) w := by
  have hp' : tmps[p]?.getD undef = .pointer (some ⟨g, 0, none⟩) := by simpa using hp
  simp [results, h, hp', asAddr, run_loadVar_row w g tt ty cs fr d hg hu hd hi]

/-- widths, just laid -/
theorem wds_new (W : World) (L : List Nat) (hl : L.length ≤ 100) : ListAt wdV (W.alloc (.cells (L.map wdV).toArray 3)) (.slice (some ⟨W.heap.size, 0, none⟩) L.length L.length) L := by
  refine ⟨_, _, rfl, Nat.le_refl _, by unfold maxLen; omega, fun _ => ⟨_, _, rfl, fun j hj => ?_⟩⟩
  rw [Nat.zero_add]
  exact cell_of_heap (heap_alloc_new W _) (by simp [hj])

theorem PktBox.set {W : World} {g : Nat} {p : Pkt} {D : Value} (h : PktBox W g p D) (j : Nat) (u : Value) (p' : Pkt) (D' : Value) (he : (pktC p D).setIfInBounds j u = pktC p' D') : PktBox (W.setCell ⟨g, j, none⟩ u) g p' D' := by
  unfold PktBox at *
  rw [heap_setCell_at h, he]
theorem own_row {w : World} {e T : TypeId} {v : Value} {k base g : Nat} {xs : List Value} {old : Array Value} {fr : Nat × Nat} (h : w.ownsRow base e 1 v k xs) (hg : w.heap[g]? = some (.cells old T fr)) (hne : T ≠ e) (cs : Array Value) : (w.setRow g cs).ownsRow base e 1 v k xs :=
  own_same h fun g' cur' hg' => setRow_other _ _ _ _ fun e1 => by
    subst e1
    rw [hg] at hg'
    simp at hg'
    exact hne hg'.2.1

/-- a packet with what bytes tell of data -/
def dataP (p : Pkt) (c : List Nat) : Pkt := { p with burst := decide (128 ≤ numA c 0 1), sync := ((numA c 0 1 % 128 : Nat) : Int) - 1, many := numA c 1 2, place := numA c 3 2, block := numA c 5 1, esi := numA c 6 2, data := c.drop 8 }

set_option linter.unusedSimpArgs false in
set_option linter.unusedVariables false in
set_option maxRecDepth 1000000 in
set_option maxHeartbeats 8000000 in
theorem wlData_any {w : World} (p : Pkt) (D v : Value) (c : List Nat) (h : ListAt byteV w v c) (ho : Octets c) (hc : c.length ≤ 140737488351248) : Calls Try.prog 28 #[pktV p D, v] w fun e w' => Below w.heap.size w w' ∧
    ((c.length < 8 ∧ e = .returned (pktV pkt0 nilS)) ∨ (8 ≤ c.length ∧ ∃ D', e = .returned (pktV (dataP p c) D') ∧ w'.ownsRow w.heap.size 5 1 D' (c.length - 8) ((c.drop 8).map byteV))) := by
  obtain ⟨W1, hW1, hb1, hx1⟩ := pkt_laid w p D
  obtain ⟨W2, hW2, hb2, hx2⟩ := pkt_laid W1 pkt0 nilS
  have hsz : W1.heap.size = w.heap.size + 1 := by rw [hW1]; exact World.size_alloc ..
  have HB2 := Lib.hid (hb1.trans (hb2.mono hb1.size))
  have HXP := Lib.hid (hx1.mono hb2)
  have HXR := Lib.hid hx2
  rw [hsz] at HXR
  have HW : Hid ((w.alloc (.cells (pktC p D) 26)).alloc (.cells (pktC pkt0 nilS) 26) = W2) := Lib.hid (by rw [← hW1, ← hW2])
  have HL0 := Lib.hid h
  obtain ⟨V, hV⟩ : ∃ V, V = W2.alloc (.cells #[.int .i64 1, .int .i64 2, .int .i64 2, .int .i64 1, .int .i64 2] 3) := ⟨_, rfl⟩
  have HV := Lib.hid hV
  have HBV : Hid (Below w.heap.size w V) := Lib.hid (by rw [hV]; exact HB2.out.alloc HB2.out.size _)
  have HB2V : Hid (Below W2.heap.size W2 V) := Lib.hid (by rw [hV]; exact (Below.refl _ _).alloc (Nat.le_refl _) _)
  have HTD : Hid (Calls Try.prog 27 #[v, .slice (some ⟨W2.heap.size, 0, none⟩) 5 5] V fun e w' => Below V.heap.size V w' ∧
      ((c.length < 8 ∧ e = .returned (.tuple #[nilS, nilS])) ∨ (8 ≤ c.length ∧ ∃ v1 v2, e = .returned (.tuple #[v1, v2]) ∧ w'.ownsRow V.heap.size 3 1 v1 5 ([numA c 0 1, numA c 1 2, numA c 3 2, numA c 5 1, numA c 6 2].map wdV) ∧ ∀ U, ListAt byteV U v c → ListAt byteV U v2 (c.drop 8)))) :=
    Lib.hid (wlTold_any v _ c [1, 2, 2, 1, 2] (h.mono HBV.out) (by rw [hV]; exact wds_new W2 [1, 2, 2, 1, 2] (by decide)) ho (by decide) (by decide))
  have hz0 := numA_lt c ho 0 1
  have HVO : Hid (∃ a n cp, v = .slice a n cp) := Lib.hid (by obtain ⟨a, cp, rfl, -⟩ := h; exact ⟨_, _, _, rfl⟩)
  have HDP : Hid (dataP p c = { p with burst := decide (128 ≤ numA c 0 1), sync := ((numA c 0 1 % 128 : Nat) : Int) - 1, many := numA c 1 2, place := numA c 3 2, block := numA c 5 1, esi := numA c 6 2, data := c.drop 8 }) := Lib.hid rfl
  have q22 : ∀ (w : World) (a : Option Addr) (n c : Nat), (binOp .eql 61 (.slice a n c) (.slice none 0 0)).run Try.prog w = .ok (.bool a.isNone) w := fun w a n c => Go.run_eql_slice_nil w _ _ a n c Try.underlying61
  have HCL : Hid (∀ (U : World) (x : Value), ListAt byteV U x (c.drop 8) → Calls Try.prog 26 #[x] U fun e w' => ∃ v', e = .returned v' ∧ w'.ownsRow U.heap.size 5 1 v' (c.drop 8).length ((c.drop 8).map byteV) ∧ Below U.heap.size U w') := Lib.hid fun U x hx => ckClone_any x (c.drop 8) hx (by rw [List.length_drop]; omega)
  have hs2 : W2.heap.size = w.heap.size + 2 := by rw [hW2, World.size_alloc, hsz]
  have HS2 := Lib.hid hs2
  unfold pktC at HW
  unfold pkt0 at HW
  dsimp only at HW
  unfold pktV
  clear hW1 hW2 hb1 hb2 hx1 hx2 hV ho hc hsz hs2 h
  generalize numA c 0 1 = y0 at *
  generalize numA c 1 2 = y1 at *
  generalize numA c 3 2 = y2 at *
  generalize numA c 5 1 = y3 at *
  generalize numA c 6 2 = y4 at *
  go_enter Try.func28, Try.ntmps28
  unfold pktC
  go_upto_region 1 with fail
  rw [HW.out]
  go_wp2_with fail
  rw [← HV.out]
  refine HTD.out.mono ?_
  rintro e w3 ⟨hb3, ⟨h8, rfl⟩ | ⟨h8, v1, v2, rfl, ho3, hr3⟩⟩
  · have HB3 := Lib.hid (HBV.out.trans (hb3.mono HBV.out.size))
    have HB23 := Lib.hid (HB2V.out.trans (hb3.mono HB2V.out.size))
    have HR3 := Lib.hid (HXR.out.mono HB23.out)
    clear hb3
    go_wp2_with (first
      | ((with_reducible show wpList _ _ _ (⟨some 15, _, _, _, _, _⟩ :: _) _ _); refine wpList_built rfl 26 _ rfl (pktC pkt0 nilS) (by kernel_rfl) ?_)
      | ((with_reducible show wpList _ _ _ (⟨none, _, _, _, _, _⟩ :: _) _ _); refine wpList_store_row rfl 26 (.tmp 4) (.tmp 15) rfl (w.heap.size + 1) (pktC pkt0 nilS) rfl rfl 26 _ HR3.out (by kernel_rfl) (by rfl) (by kernel_rfl) ?_))
    refine bodyPost_ret (wl_row1 rfl _ _ (w.heap.size + 1) 26 _ (0, 0) _ rfl (setRow_heap _ _ _ _ _ _ HR3.out) Try.underlying26 rfl (by kernel_rfl)) rfl ?_
    exact ⟨below_setRow HB3.out (Nat.le_succ _) _, .inl ⟨h8, rfl⟩⟩
  · have HB3 := Lib.hid (HBV.out.trans (hb3.mono HBV.out.size))
    have HB23 := Lib.hid (HB2V.out.trans (hb3.mono HB2V.out.size))
    have HR3 := Lib.hid (HXR.out.mono HB23.out)
    have HP3 := Lib.hid (HXP.out.mono HB23.out)
    have HO3 := Lib.hid ho3
    have HRS := Lib.hid hr3
    have HH8 := Lib.hid h8
    obtain ⟨an, cn, hne, -, hng⟩ := own_open ho3
    obtain ⟨gn, rfl⟩ := hng (by decide)
    subst hne
    have hcn : ∀ t (u : Value), ([y0, y1, y2, y3, y4].map wdV)[t]? = some u → w3.cell? ⟨gn, t, none⟩ = some u := fun t u hu => by
      have := own_cells HO3.out (by rfl) t u hu
      rwa [show Addr.add ⟨gn, 0, none⟩ t = ⟨gn, 0 + t, none⟩ from Go.WideShapes.add_plain .., Nat.zero_add] at this
    have n0 : w3.cell? ⟨gn, 0, none⟩ = some (.int .i64 (y0 : Int)) := hcn 0 _ rfl
    obtain ⟨-, -, -, -, p4, p5, -⟩ := HP3.out.cells
    have f4 : w3.frozen? ⟨w.heap.size, 4, none⟩ = false := frozen_of_heap HP3.out
    have f5 : w3.frozen? ⟨w.heap.size, 5, none⟩ = false := frozen_of_heap HP3.out
    obtain ⟨m, hm⟩ : ∃ m, m = y0 % 128 := ⟨_, rfl⟩
    obtain ⟨bb, hbb⟩ : ∃ B, decide (128 ≤ y0) = B := ⟨_, rfl⟩
    rw [← hm, hbb] at HDP
    have e1 : decide ((128 : Int) ≤ (y0 : Int)) = bb := by rw [← hbb]; exact decide_eq_decide.2 (by omega)
    have e2 : (y0 : Int).tmod 128 = (m : Int) := by rw [hm]; rfl
    have e3 : IntKind.i64.wrap ((m : Int) - 1) = (m : Int) - 1 := IntWalk.i64_in _ (by omega)
    have HCN := Lib.hid hcn
    clear hb3 ho3 hr3 hcn hm h8 hng
    go_upto_region 4 with fail
    go_region
    obtain ⟨W4, hW4⟩ : ∃ W, W = ((w3.setCell ⟨w.heap.size, 4, none⟩ (.bool bb)).setCell ⟨w.heap.size, 5, none⟩ (.int .i64 ((m : Int) - 1))).drew := ⟨_, rfl⟩
    rw [← hW4]
    have HX4 : Hid (PktBox W4 w.heap.size { p with burst := bb, sync := (m : Int) - 1 } D) := Lib.hid (by rw [hW4]; exact (HP3.out.set 4 (.bool bb) { p with burst := bb } D rfl).set 5 _ _ _ rfl)
    have HK4 : Hid (∀ b, b ≠ w.heap.size → W4.heap[b]? = w3.heap[b]?) := Lib.hid fun b hb => by
      rw [hW4]
      exact (Below.heap_setCell (w3.setCell ⟨w.heap.size, 4, none⟩ (.bool bb)) ⟨w.heap.size, 5, none⟩ _ b hb).trans (Below.heap_setCell w3 ⟨w.heap.size, 4, none⟩ _ b hb)
    have HB4 : Hid (Below w.heap.size w W4) := Lib.hid (by rw [hW4]; exact ((HB3.out.setCell (p := ⟨w.heap.size, 4, none⟩) (Nat.le_refl _) _).setCell (p := ⟨w.heap.size, 5, none⟩) (Nat.le_refl _) _).drew)
    have hgn : gn ≠ w.heap.size := by
      have := (HO3.out.lt gn rfl).1
      have := HB2V.out.size
      have := HS2.out
      omega
    have HC4 : Hid (∀ t (u : Value), ([y0, y1, y2, y3, y4].map wdV)[t]? = some u → W4.cell? ⟨gn, t, none⟩ = some u) := Lib.hid fun t u hu => (World.cell?_of_block (w := w3) (a := ⟨gn, t, none⟩) (HK4.out gn hgn)).trans (HCN.out t u hu)
    have HR4 : Hid (PktBox W4 (w.heap.size + 1) pkt0 nilS) := Lib.hid ((HK4.out _ (by omega)).trans HR3.out)
    have n1 : W4.cell? ⟨gn, 1, none⟩ = some (.int .i64 (y1 : Int)) := HC4.out 1 _ rfl
    have n2 : W4.cell? ⟨gn, 2, none⟩ = some (.int .i64 (y2 : Int)) := HC4.out 2 _ rfl
    have n3 : W4.cell? ⟨gn, 3, none⟩ = some (.int .i64 (y3 : Int)) := HC4.out 3 _ rfl
    have n4 : W4.cell? ⟨gn, 4, none⟩ = some (.int .i64 (y4 : Int)) := HC4.out 4 _ rfl
    obtain ⟨-, -, -, -, -, -, q6, q7, q8, q9, -⟩ := HX4.out.cells
    have g6 : W4.frozen? ⟨w.heap.size, 6, none⟩ = false := frozen_of_heap HX4.out
    have g7 : W4.frozen? ⟨w.heap.size, 7, none⟩ = false := frozen_of_heap HX4.out
    have g8 : W4.frozen? ⟨w.heap.size, 8, none⟩ = false := frozen_of_heap HX4.out
    have g9 : W4.frozen? ⟨w.heap.size, 9, none⟩ = false := frozen_of_heap HX4.out
    dsimp only at q6 q7 q8 q9
    clear hW4 n0 p4 p5 f4 f5 e1 e2 e3 HC4 HK4 HP3 HCN hbb hgn
    go_upto_region 5 with fail
    go_region
    obtain ⟨W5, hW5⟩ : ∃ W, W = ((((W4.setCell ⟨w.heap.size, 6, none⟩ (.int .i64 (y1 : Int))).setCell ⟨w.heap.size, 7, none⟩ (.int .i64 (y2 : Int))).setCell ⟨w.heap.size, 8, none⟩ (.int .i64 (y3 : Int))).setCell ⟨w.heap.size, 9, none⟩ (.int .i64 (y4 : Int))).drew := ⟨_, rfl⟩
    rw [← hW5]
    have HX5 : Hid (PktBox W5 w.heap.size { p with burst := bb, sync := (m : Int) - 1, many := (y1 : Int), place := (y2 : Int), block := (y3 : Int), esi := (y4 : Int) } D) := Lib.hid (by
      rw [hW5]
      exact (((HX4.out.set 6 _ { p with burst := bb, sync := (m : Int) - 1, many := (y1 : Int) } D rfl).set 7 _ { p with burst := bb, sync := (m : Int) - 1, many := (y1 : Int), place := (y2 : Int) } D rfl).set 8 _ { p with burst := bb, sync := (m : Int) - 1, many := (y1 : Int), place := (y2 : Int), block := (y3 : Int) } D rfl).set 9 _ _ _ rfl)
    have HR5 : Hid (PktBox W5 (w.heap.size + 1) pkt0 nilS) := Lib.hid (by
      rw [hW5]
      have hb : w.heap.size + 1 ≠ w.heap.size := by omega
      exact ((Below.heap_setCell _ ⟨w.heap.size, 9, none⟩ _ _ hb).trans ((Below.heap_setCell _ ⟨w.heap.size, 8, none⟩ _ _ hb).trans ((Below.heap_setCell _ ⟨w.heap.size, 7, none⟩ _ _ hb).trans (Below.heap_setCell W4 ⟨w.heap.size, 6, none⟩ _ _ hb)))).trans HR4.out)
    have HB5 : Hid (Below w.heap.size w W5) := Lib.hid (by
      rw [hW5]
      exact ((((HB4.out.setCell (p := ⟨w.heap.size, 6, none⟩) (Nat.le_refl _) _).setCell (p := ⟨w.heap.size, 7, none⟩) (Nat.le_refl _) _).setCell (p := ⟨w.heap.size, 8, none⟩) (Nat.le_refl _) _).setCell (p := ⟨w.heap.size, 9, none⟩) (Nat.le_refl _) _).drew)
    have HC5 := Lib.hid (HCL.out W5 v2 (HRS.out W5 (HL0.out.mono HB5.out)))
    clear hW5 n1 n2 n3 n4 q6 q7 q8 q9 g6 g7 g8 g9 HX4 HR4
    obtain ⟨P5, hP5⟩ : ∃ P : Pkt, P = { p with burst := bb, sync := (m : Int) - 1, many := (y1 : Int), place := (y2 : Int), block := (y3 : Int), esi := (y4 : Int) } := ⟨_, rfl⟩
    rw [← hP5] at HX5
    have HPD : Hid (dataP p c = { P5 with data := c.drop 8 }) := Lib.hid (by rw [HDP.out, hP5])
    clear hP5 HDP
    have HLC : Hid ((c.drop 8).length = c.length - 8) := Lib.hid List.length_drop
    generalize hc8 : c.drop 8 = c8 at *
    go_wp2_with fail
    refine HC5.out.mono ?_
    rintro e w6 ⟨v6, rfl, ho6, hb6⟩
    have HB6 := Lib.hid (HB5.out.trans (hb6.mono HB5.out.size))
    have HX6 := Lib.hid (HX5.out.mono hb6)
    have HR6 := Lib.hid (HR5.out.mono hb6)
    have HO6 := Lib.hid (ownsRow_base ho6 HB5.out.size)
    obtain ⟨a6, c6, hv6, -, -⟩ := own_open ho6
    subst hv6
    clear ho6 hb6
    obtain ⟨-, -, -, -, -, -, -, -, -, -, q10, -⟩ := HX6.out.cells
    have g10 : w6.frozen? ⟨w.heap.size, 10, none⟩ = false := frozen_of_heap HX6.out
    go_upto_region 7 with fail
    obtain ⟨W7, hW7⟩ : ∃ W, W = w6.setCell ⟨w.heap.size, 10, none⟩ (.slice a6 c8.length c6) := ⟨_, rfl⟩
    rw [← hW7]
    have HX7 : Hid (PktBox W7 w.heap.size { P5 with data := c8 } (.slice a6 c8.length c6)) := Lib.hid (by rw [hW7]; exact HX6.out.set 10 _ _ _ rfl)
    have HR7 : Hid (PktBox W7 (w.heap.size + 1) pkt0 nilS) := Lib.hid (by
      rw [hW7]
      have hb : w.heap.size + 1 ≠ w.heap.size := by omega
      exact (Below.heap_setCell w6 ⟨w.heap.size, 10, none⟩ _ _ hb).trans HR6.out)
    have HB7 : Hid (Below w.heap.size w W7) := Lib.hid (by rw [hW7]; exact HB6.out.setCell (p := ⟨w.heap.size, 10, none⟩) (Nat.le_refl _) _)
    have HO7 : Hid (W7.ownsRow w.heap.size 5 1 (.slice a6 c8.length c6) c8.length (c8.map byteV)) := Lib.hid (by rw [hW7]; exact own_set HO6.out HX6.out (by decide) 10 _)
    clear hW7 q10 g10
    go_wp2_with (first
      | ((with_reducible show wpList _ _ _ (⟨some 46, _, _, _, _, _⟩ :: _) _ _); refine wpList_load_row rfl 26 (.tmp 2) rfl w.heap.size rfl 26 (pktC { P5 with data := c8 } (.slice a6 c8.length c6)) (0, 0) _ HX7.out Try.underlying26 rfl (by kernel_rfl) ?_)
      | ((with_reducible show wpList _ _ _ (⟨none, _, _, _, _, _⟩ :: _) _ _); refine wpList_store_row rfl 26 (.tmp 4) (.tmp 46) rfl (w.heap.size + 1) (pktC { P5 with data := c8 } (.slice a6 c8.length c6)) rfl rfl 26 _ HR7.out (by kernel_rfl) (by rfl) (by kernel_rfl) ?_))
    refine bodyPost_ret (wl_row1 rfl _ _ (w.heap.size + 1) 26 _ (0, 0) _ rfl (setRow_heap _ _ _ _ _ _ HR7.out) Try.underlying26 rfl (by kernel_rfl)) rfl ?_
    refine ⟨below_setRow HB7.out (Nat.le_succ _) _, .inr ⟨HH8.out, _, by rw [HPD.out]; rfl, ?_⟩⟩
    rw [← HLC.out, hc8]
    exact own_row HO7.out HR7.out (by decide) _
end Go.Proofs.Ytmihpbdgilmdiaa
