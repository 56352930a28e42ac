/- The landed package wire: readAnnounce (layer 16). -/
import Derived.Test.YtmihpbdgilmdiaaWlF
namespace Go.Proofs.Ytmihpbdgilmdiaa
open Go.RowKit Go.Extern.Stop Go.Stop Go.Extern

/-- a packet with what bytes tell of an announcement -/
def annP (p : Pkt) (c : List Nat) : Pkt := { p with size := (numA c 0 4 : Nat), symbol := (numA c 4 1 : Nat), blocks := (numA c 5 1 : Nat), long := (numA c 6 1 : Nat), short := (numA c 7 1 : Nat), layers := (numA c 8 1 : Nat), esis := ((numA c 9 2 : Nat) : Int) + 1, base := (numA c 11 2 : Nat), length := (numA c 13 2 : Nat) }

set_option linter.unusedSimpArgs false in
set_option linter.unusedVariables false in
set_option maxRecDepth 1000000 in
set_option maxHeartbeats 8000000 in
theorem wlAnn_any {w : World} (p : Pkt) (v : Value) (c : List Nat) (h : ListAt byteV w v c) (ho : Octets c) : Calls Try.prog 29 #[pktV p nilS, v] w fun e w' => Below w.heap.size w w' ∧
    ((c.length ≠ 15 ∧ e = .returned (pktV pkt0 nilS)) ∨ (c.length = 15 ∧ e = .returned (pktV (annP p c) nilS))) := by
  obtain ⟨W1, hW1, hb1, hx1⟩ := pkt_laid w p nilS
  obtain ⟨W2, hW2, hb2, hx2⟩ := pkt_laid W1 pkt0 nilS
  have hsz : W1.heap.size = w.heap.size + 1 := by rw [hW1]; exact World.size_alloc ..
  have HB2 := Lib.hid (hb1.trans (hb2.mono hb1.size))
  have HXP := Lib.hid (hx1.mono hb2)
  have HXR := Lib.hid hx2
  rw [hsz] at HXR
  have HW : Hid ((w.alloc (.cells (pktC p nilS) 26)).alloc (.cells (pktC pkt0 nilS) 26) = W2) := Lib.hid (by rw [← hW1, ← hW2])
  have HL0 := Lib.hid h
  obtain ⟨V, hV⟩ : ∃ V, V = W2.alloc (.cells #[.int .i64 4, .int .i64 1, .int .i64 1, .int .i64 1, .int .i64 1, .int .i64 1, .int .i64 2, .int .i64 2, .int .i64 2] 3) := ⟨_, rfl⟩
  have HV := Lib.hid hV
  have HBV : Hid (Below w.heap.size w V) := Lib.hid (by rw [hV]; exact HB2.out.alloc HB2.out.size _)
  have HB2V : Hid (Below W2.heap.size W2 V) := Lib.hid (by rw [hV]; exact (Below.refl _ _).alloc (Nat.le_refl _) _)
  have HTD : Hid (Calls Try.prog 27 #[v, .slice (some ⟨W2.heap.size, 0, none⟩) 9 9] V fun e w' => Below V.heap.size V w' ∧
      ((c.length < 15 ∧ e = .returned (.tuple #[nilS, nilS])) ∨ (15 ≤ c.length ∧ ∃ v1 v2, e = .returned (.tuple #[v1, v2]) ∧ w'.ownsRow V.heap.size 3 1 v1 9 ([numA c 0 4, numA c 4 1, numA c 5 1, numA c 6 1, numA c 7 1, numA c 8 1, numA c 9 2, numA c 11 2, numA c 13 2].map wdV) ∧ ∀ U, ListAt byteV U v c → ListAt byteV U v2 (c.drop 15)))) :=
    Lib.hid (wlTold_any v _ c [4, 1, 1, 1, 1, 1, 2, 2, 2] (h.mono HBV.out) (by rw [hV]; exact wds_new W2 [4, 1, 1, 1, 1, 1, 2, 2, 2] (by decide)) ho (by decide) (by decide))
  have hy6b := numA_lt c ho 9 2
  have HVO : Hid (∃ a n cp, v = .slice a n cp) := Lib.hid (by obtain ⟨a, cp, rfl, -⟩ := h; exact ⟨_, _, _, rfl⟩)
  have HDP : Hid (annP p c = { p with size := (numA c 0 4 : Nat), symbol := (numA c 4 1 : Nat), blocks := (numA c 5 1 : Nat), long := (numA c 6 1 : Nat), short := (numA c 7 1 : Nat), layers := (numA c 8 1 : Nat), esis := ((numA c 9 2 : Nat) : Int) + 1, base := (numA c 11 2 : Nat), length := (numA c 13 2 : Nat) }) := Lib.hid rfl
  have q22 : ∀ (w : World) (a : Option Addr) (n c : Nat), (binOp .eql 61 (.slice a n c) (.slice none 0 0)).run Try.prog w = .ok (.bool a.isNone) w := fun w a n c => Go.run_eql_slice_nil w _ _ a n c Try.underlying61
  have hs2 : W2.heap.size = w.heap.size + 2 := by rw [hW2, World.size_alloc, hsz]
  have HS2 := Lib.hid hs2
  unfold pktC at HW
  unfold pkt0 at HW
  dsimp only at HW
  unfold pktV
  clear hW1 hW2 hb1 hb2 hx1 hx2 hV ho hsz hs2 h
  generalize numA c 0 4 = y0 at *
  generalize numA c 4 1 = y1 at *
  generalize numA c 5 1 = y2 at *
  generalize numA c 6 1 = y3 at *
  generalize numA c 7 1 = y4 at *
  generalize numA c 8 1 = y5 at *
  generalize numA c 9 2 = y6 at *
  generalize numA c 11 2 = y7 at *
  generalize numA c 13 2 = y8 at *
  go_enter Try.func29, Try.ntmps29
  unfold pktC
  go_upto_region 1 with fail
  rw [HW.out]
  go_wp2_with fail
  rw [← HV.out]
  refine HTD.out.mono ?_
  rintro e w3 ⟨hb3, ⟨h8, rfl⟩ | ⟨h8, v1, v2, rfl, ho3, hr3⟩⟩
  · have HB3 := Lib.hid (HBV.out.trans (hb3.mono HBV.out.size))
    have HB23 := Lib.hid (HB2V.out.trans (hb3.mono HB2V.out.size))
    have HR3 := Lib.hid (HXR.out.mono HB23.out)
    have HNE : Hid (c.length ≠ 15) := Lib.hid (by omega)
    clear hb3 h8
    go_wp2_with (first
      | ((with_reducible show wpList _ _ _ (⟨some 20, _, _, _, _, _⟩ :: _) _ _); refine wpList_built rfl 26 _ rfl (pktC pkt0 nilS) (by kernel_rfl) ?_)
      | ((with_reducible show wpList _ _ _ (⟨none, _, _, _, _, _⟩ :: _) _ _); refine wpList_store_row rfl 26 (.tmp 4) (.tmp 20) rfl (w.heap.size + 1) (pktC pkt0 nilS) rfl rfl 26 _ HR3.out (by kernel_rfl) (by rfl) (by kernel_rfl) ?_))
    refine bodyPost_ret (wl_row1 rfl _ _ (w.heap.size + 1) 26 _ (0, 0) _ rfl (setRow_heap _ _ _ _ _ _ HR3.out) Try.underlying26 rfl (by kernel_rfl)) rfl ?_
    exact ⟨below_setRow HB3.out (Nat.le_succ _) _, .inl ⟨HNE.out, rfl⟩⟩
  · have HB3 := Lib.hid (HBV.out.trans (hb3.mono HBV.out.size))
    have HB23 := Lib.hid (HB2V.out.trans (hb3.mono HB2V.out.size))
    have HR3 := Lib.hid (HXR.out.mono HB23.out)
    have HP3 := Lib.hid (HXP.out.mono HB23.out)
    have HO3 := Lib.hid ho3
    have hrl := hr3 w3 (HL0.out.mono HB3.out)
    obtain ⟨a2, c2, hv2, -, -, -⟩ := hrl
    rw [List.length_drop] at hv2
    subst hv2
    obtain ⟨an, cn, hne, -, hng⟩ := own_open ho3
    obtain ⟨gn, rfl⟩ := hng (by decide)
    subst hne
    by_cases h15 : c.length = 15
    · have d15 : c.length - 15 = 0 := by omega
      rw [d15]
      have HE15 := Lib.hid h15
      have hcn : ∀ t (u : Value), ([y0, y1, y2, y3, y4, y5, y6, y7, y8].map wdV)[t]? = some u → w3.cell? ⟨gn, t, none⟩ = some u := fun t u hu => by
        have := own_cells HO3.out (by rfl) t u hu
        rwa [show Addr.add ⟨gn, 0, none⟩ t = ⟨gn, 0 + t, none⟩ from Go.WideShapes.add_plain .., Nat.zero_add] at this
      have n0 : w3.cell? ⟨gn, 0, none⟩ = some (.int .i64 (y0 : Int)) := hcn 0 _ rfl
      have n1 : w3.cell? ⟨gn, 1, none⟩ = some (.int .i64 (y1 : Int)) := hcn 1 _ rfl
      have n2 : w3.cell? ⟨gn, 2, none⟩ = some (.int .i64 (y2 : Int)) := hcn 2 _ rfl
      have n3 : w3.cell? ⟨gn, 3, none⟩ = some (.int .i64 (y3 : Int)) := hcn 3 _ rfl
      have n4 : w3.cell? ⟨gn, 4, none⟩ = some (.int .i64 (y4 : Int)) := hcn 4 _ rfl
      obtain ⟨-, -, -, -, -, -, -, -, -, -, -, p11, p12, p13, p14, p15, -⟩ := HP3.out.cells
      have f11 : w3.frozen? ⟨w.heap.size, 11, none⟩ = false := frozen_of_heap HP3.out
      have f12 : w3.frozen? ⟨w.heap.size, 12, none⟩ = false := frozen_of_heap HP3.out
      have f13 : w3.frozen? ⟨w.heap.size, 13, none⟩ = false := frozen_of_heap HP3.out
      have f14 : w3.frozen? ⟨w.heap.size, 14, none⟩ = false := frozen_of_heap HP3.out
      have f15 : w3.frozen? ⟨w.heap.size, 15, none⟩ = false := frozen_of_heap HP3.out
      have HCN := Lib.hid hcn
      clear hb3 ho3 hr3 hcn h8 hng h15 d15
      go_upto_region 4 with fail
      go_region
      obtain ⟨W4, hW4⟩ : ∃ W, W = (((((w3.setCell ⟨w.heap.size, 11, none⟩ (.int .i64 (y0 : Int))).setCell ⟨w.heap.size, 12, none⟩ (.int .i64 (y1 : Int))).setCell ⟨w.heap.size, 13, none⟩ (.int .i64 (y2 : Int))).setCell ⟨w.heap.size, 14, none⟩ (.int .i64 (y3 : Int))).setCell ⟨w.heap.size, 15, none⟩ (.int .i64 (y4 : Int))).drew := ⟨_, rfl⟩
      rw [← hW4]
      have HX4 : Hid (PktBox W4 w.heap.size { p with size := (y0 : Int), symbol := (y1 : Int), blocks := (y2 : Int), long := (y3 : Int), short := (y4 : Int) } nilS) := Lib.hid (by rw [hW4]; exact (((((HP3.out.set 11 _ { p with size := (y0 : Int) } nilS rfl).set 12 _ { p with size := (y0 : Int), symbol := (y1 : Int) } nilS rfl).set 13 _ { p with size := (y0 : Int), symbol := (y1 : Int), blocks := (y2 : Int) } nilS rfl).set 14 _ { p with size := (y0 : Int), symbol := (y1 : Int), blocks := (y2 : Int), long := (y3 : Int) } nilS rfl).set 15 _ { p with size := (y0 : Int), symbol := (y1 : Int), blocks := (y2 : Int), long := (y3 : Int), short := (y4 : Int) } nilS rfl))
      have HK4 : Hid (∀ b, b ≠ w.heap.size → W4.heap[b]? = w3.heap[b]?) := Lib.hid fun b hb => by
        rw [hW4]
        exact (Below.heap_setCell _ ⟨w.heap.size, 15, none⟩ _ _ hb).trans ((Below.heap_setCell _ ⟨w.heap.size, 14, none⟩ _ _ hb).trans ((Below.heap_setCell _ ⟨w.heap.size, 13, none⟩ _ _ hb).trans ((Below.heap_setCell _ ⟨w.heap.size, 12, none⟩ _ _ hb).trans (Below.heap_setCell w3 ⟨w.heap.size, 11, none⟩ _ _ hb))))
      have HB4 : Hid (Below w.heap.size w W4) := Lib.hid (by rw [hW4]; exact (((((HB3.out.setCell (p := ⟨w.heap.size, 11, none⟩) (Nat.le_refl _) _).setCell (p := ⟨w.heap.size, 12, none⟩) (Nat.le_refl _) _).setCell (p := ⟨w.heap.size, 13, none⟩) (Nat.le_refl _) _).setCell (p := ⟨w.heap.size, 14, none⟩) (Nat.le_refl _) _).setCell (p := ⟨w.heap.size, 15, none⟩) (Nat.le_refl _) _).drew)
      have hgn : gn ≠ w.heap.size := by
        have := (HO3.out.lt gn rfl).1
        have := HB2V.out.size
        have := HS2.out
        omega
      have HC4 : Hid (∀ t (u : Value), ([y0, y1, y2, y3, y4, y5, y6, y7, y8].map wdV)[t]? = some u → W4.cell? ⟨gn, t, none⟩ = some u) := Lib.hid fun t u hu => (World.cell?_of_block (w := w3) (a := ⟨gn, t, none⟩) (HK4.out gn hgn)).trans (HCN.out t u hu)
      have HR4 : Hid (PktBox W4 (w.heap.size + 1) pkt0 nilS) := Lib.hid ((HK4.out _ (by omega)).trans HR3.out)
      have m5 : W4.cell? ⟨gn, 5, none⟩ = some (.int .i64 (y5 : Int)) := HC4.out 5 _ rfl
      have m6 : W4.cell? ⟨gn, 6, none⟩ = some (.int .i64 (y6 : Int)) := HC4.out 6 _ rfl
      have m7 : W4.cell? ⟨gn, 7, none⟩ = some (.int .i64 (y7 : Int)) := HC4.out 7 _ rfl
      have m8 : W4.cell? ⟨gn, 8, none⟩ = some (.int .i64 (y8 : Int)) := HC4.out 8 _ rfl
      have hwe : IntKind.i64.wrap ((y6 : Int) + 1) = (y6 : Int) + 1 := IntWalk.i64_in _ (by omega)
      obtain ⟨-, -, -, -, -, -, -, -, -, -, -, -, -, -, -, -, q6, q7, q8, q9⟩ := HX4.out.cells
      have g6 : W4.frozen? ⟨w.heap.size, 16, none⟩ = false := frozen_of_heap HX4.out
      have g7 : W4.frozen? ⟨w.heap.size, 17, none⟩ = false := frozen_of_heap HX4.out
      have g8 : W4.frozen? ⟨w.heap.size, 18, none⟩ = false := frozen_of_heap HX4.out
      have g9 : W4.frozen? ⟨w.heap.size, 19, none⟩ = false := frozen_of_heap HX4.out
      dsimp only at q6 q7 q8 q9
      clear hW4 n0 n1 n2 n3 n4 p11 p12 p13 p14 p15 f11 f12 f13 f14 f15 HC4 HK4 HP3 HCN hgn
      go_upto_region 5 with fail
      go_region
      obtain ⟨W5, hW5⟩ : ∃ W, W = ((((W4.setCell ⟨w.heap.size, 16, none⟩ (.int .i64 (y5 : Int))).setCell ⟨w.heap.size, 17, none⟩ (.int .i64 ((y6 : Int) + 1))).setCell ⟨w.heap.size, 18, none⟩ (.int .i64 (y7 : Int))).setCell ⟨w.heap.size, 19, none⟩ (.int .i64 (y8 : Int))).drew := ⟨_, rfl⟩
      rw [← hW5]
      obtain ⟨P5, hP5⟩ : ∃ P : Pkt, P = { p with size := (y0 : Int), symbol := (y1 : Int), blocks := (y2 : Int), long := (y3 : Int), short := (y4 : Int), layers := (y5 : Int), esis := (y6 : Int) + 1, base := (y7 : Int), length := (y8 : Int) } := ⟨_, rfl⟩
      have HX5 : Hid (PktBox W5 w.heap.size P5 nilS) := Lib.hid (by
        rw [hW5, hP5]
        exact ((((HX4.out.set 16 _ { p with size := (y0 : Int), symbol := (y1 : Int), blocks := (y2 : Int), long := (y3 : Int), short := (y4 : Int), layers := (y5 : Int) } nilS rfl).set 17 _ { p with size := (y0 : Int), symbol := (y1 : Int), blocks := (y2 : Int), long := (y3 : Int), short := (y4 : Int), layers := (y5 : Int), esis := (y6 : Int) + 1 } nilS rfl).set 18 _ { p with size := (y0 : Int), symbol := (y1 : Int), blocks := (y2 : Int), long := (y3 : Int), short := (y4 : Int), layers := (y5 : Int), esis := (y6 : Int) + 1, base := (y7 : Int) } nilS rfl).set 19 _ { p with size := (y0 : Int), symbol := (y1 : Int), blocks := (y2 : Int), long := (y3 : Int), short := (y4 : Int), layers := (y5 : Int), esis := (y6 : Int) + 1, base := (y7 : Int), length := (y8 : Int) } nilS rfl))
      have HR5 : Hid (PktBox W5 (w.heap.size + 1) pkt0 nilS) := Lib.hid (by
        rw [hW5]
        have hb : w.heap.size + 1 ≠ w.heap.size := by omega
        exact ((Below.heap_setCell _ ⟨w.heap.size, 19, none⟩ _ _ hb).trans ((Below.heap_setCell _ ⟨w.heap.size, 18, none⟩ _ _ hb).trans ((Below.heap_setCell _ ⟨w.heap.size, 17, none⟩ _ _ hb).trans (Below.heap_setCell W4 ⟨w.heap.size, 16, none⟩ _ _ hb)))).trans HR4.out)
      have HB5 : Hid (Below w.heap.size w W5) := Lib.hid (by
        rw [hW5]
        exact ((((HB4.out.setCell (p := ⟨w.heap.size, 16, none⟩) (Nat.le_refl _) _).setCell (p := ⟨w.heap.size, 17, none⟩) (Nat.le_refl _) _).setCell (p := ⟨w.heap.size, 18, none⟩) (Nat.le_refl _) _).setCell (p := ⟨w.heap.size, 19, none⟩) (Nat.le_refl _) _).drew)
      have HPD : Hid (annP p c = P5) := Lib.hid (by rw [HDP.out, hP5])
      clear hW5 hP5 m5 m6 m7 m8 q6 q7 q8 q9 g6 g7 g8 g9 HX4 HR4 HDP
      go_wp2_with (first
        | ((with_reducible show wpList _ _ _ (⟨some 55, _, _, _, _, _⟩ :: _) _ _); refine wpList_load_row rfl 26 (.tmp 2) rfl w.heap.size rfl 26 (pktC P5 nilS) (0, 0) _ HX5.out Try.underlying26 rfl (by kernel_rfl) ?_)
        | ((with_reducible show wpList _ _ _ (⟨none, _, _, _, _, _⟩ :: _) _ _); refine wpList_store_row rfl 26 (.tmp 4) (.tmp 55) rfl (w.heap.size + 1) (pktC P5 nilS) rfl rfl 26 _ HR5.out (by kernel_rfl) (by rfl) (by kernel_rfl) ?_))
      refine bodyPost_ret (wl_row1 rfl _ _ (w.heap.size + 1) 26 _ (0, 0) _ rfl (setRow_heap _ _ _ _ _ _ HR5.out) Try.underlying26 rfl (by kernel_rfl)) rfl ?_
      exact ⟨below_setRow HB5.out (Nat.le_succ _) _, .inr ⟨HE15.out, by rw [HPD.out]; rfl⟩⟩
    · have d15 : decide ((0 : Int) < ((c.length - 15 : Nat) : Int)) = true := decide_eq_true (by omega)
      have d15' : decide (0 < c.length - 15) = true := decide_eq_true (by omega)
      have d15'' : 0 < c.length - 15 := by omega
      have HNE := Lib.hid h15
      clear hb3 ho3 hr3 h8 hng h15
      generalize c.length - 15 = m15 at *
      go_wp2_with (first
        | ((with_reducible show wpList _ _ _ (⟨some 20, _, _, _, _, _⟩ :: _) _ _); refine wpList_built rfl 26 _ rfl (pktC pkt0 nilS) (by kernel_rfl) ?_)
        | ((with_reducible show wpList _ _ _ (⟨none, _, _, _, _, _⟩ :: _) _ _); refine wpList_store_row rfl 26 (.tmp 4) (.tmp 20) rfl (w.heap.size + 1) (pktC pkt0 nilS) rfl rfl 26 _ HR3.out (by kernel_rfl) (by rfl) (by kernel_rfl) ?_))
      refine bodyPost_ret (wl_row1 rfl _ _ (w.heap.size + 1) 26 _ (0, 0) _ rfl (setRow_heap _ _ _ _ _ _ HR3.out) Try.underlying26 rfl (by kernel_rfl)) rfl ?_
      exact ⟨below_setRow HB3.out (Nat.le_succ _) _, .inl ⟨HNE.out, rfl⟩⟩
end Go.Proofs.Ytmihpbdgilmdiaa
