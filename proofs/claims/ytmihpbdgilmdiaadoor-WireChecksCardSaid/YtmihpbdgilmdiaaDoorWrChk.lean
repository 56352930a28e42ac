/- The document's Check of packets (layer 16). -/
import Derived.Test.YtmihpbdgilmdiaaDoorJ8
import Derived.Test.YtmihpbdgilmdiaaDoorWrBare
import Derived.Test.YtmihpbdgilmdiaaDoorJ9
namespace Go.Proofs.YtmihpbdgilmdiaaDoor
open Go.RowKit Go.Extern.Stop Go.Stop Go.Extern

theorem form_iff (p : Pkt) (h1 : 1 ≤ p.kind) (h2 : p.kind ≤ 2) : FormP p ↔ p = bareP p ∧ ¬ ((p.kind = 1 ∧ (p.data.length < 1 ∨ 64 < p.data.length)) ∨ (p.kind = 2 ∧ planC p.size p.symbol p.blocks p.long p.short ≠ 0)) := by
  constructor
  · intro h
    by_cases hk : p.kind = 1
    · obtain ⟨⟨f1, f2, f3, f4, f5⟩, f6, f7, f8, f9, f10, f11⟩ := h.d hk
      refine ⟨?_, ?_⟩
      · unfold bareP
        rw [if_pos hk]
        ext1 <;> first | rfl | assumption
      · rintro (⟨-, g⟩ | ⟨g, -⟩) <;> omega
    · have hk2 : p.kind = 2 := by omega
      obtain ⟨f1, f2, f3, f4, f5, f6, f7, f8⟩ := h.a hk2
      refine ⟨?_, ?_⟩
      · unfold bareP
        rw [if_neg hk]
        ext1 <;> first | rfl | assumption
      · rintro (⟨g, -⟩ | ⟨-, g⟩)
        · exact hk g
        · exact g f8
  · rintro ⟨he, hn⟩
    refine ⟨fun hk => ?_, fun hk => ?_⟩
    · unfold bareP at he
      rw [if_pos hk] at he
      have e := congrArg (fun q : Pkt => (q.size, q.symbol, q.blocks, q.long, q.short, q.layers, q.esis, q.base, q.length)) he
      simp only [Prod.mk.injEq] at e
      obtain ⟨e1, e2, e3, e4, e5, e6, e7, e8, e9⟩ := e
      refine ⟨⟨e1, e2, e3, e4, e5⟩, e6, e7, e8, e9, ?_, ?_⟩
      · rcases Nat.lt_or_ge p.data.length 1 with g | g
        · exact absurd (.inl ⟨hk, .inl g⟩) hn
        · exact g
      · rcases Nat.lt_or_ge 64 p.data.length with g | g
        · exact absurd (.inl ⟨hk, .inr g⟩) hn
        · exact g
    · unfold bareP at he
      rw [if_neg (by omega)] at he
      have e := congrArg (fun q : Pkt => (q.burst, q.sync, q.many, q.place, q.block, q.esi, q.data)) he
      simp only [Prod.mk.injEq] at e
      obtain ⟨e1, e2, e3, e4, e5, e6, e7⟩ := e
      refine ⟨e1, e2, e3, e4, e5, e6, e7, ?_⟩
      exact Classical.byContradiction fun g => hn (.inr ⟨hk, g⟩)

theorem bare_octs {p : Pkt} (h : Octets p.data) : Octets (bareP p).data := by
  unfold bareP
  split
  · exact h
  · intro x hx; cases hx

set_option maxRecDepth 1000000 in
set_option maxHeartbeats 4000000 in
theorem rCheck_any {w : World} (p : Pkt) (D : Value) (hD : ListAt byteV w D p.data) (hF : FitsP p) : Calls Tryd.prog 10 #[pktV p D] w fun e w' => e = .returned (.int .i64 (ckN p)) ∧ Below w.heap.size w w' := by
  obtain ⟨W1, hW1, hb1, hx1⟩ := pkt_laid w p D
  have HB := Lib.hid hb1
  have HW := Lib.hid hW1
  have HX := Lib.hid hx1
  have HD := Lib.hid hD
  have HRG : Hid (∀ V : World, Calls Tryd.prog 21 #[.agg (pktC p D)] V fun e w' => ∃ b : Bool, e = .returned (.bool b) ∧ (b = true ↔ RangedP p) ∧ Below V.heap.size V w') := Lib.hid fun V => rRanged_any p D hF
  have HBR : Hid (∀ V : World, Below w.heap.size w V → Calls Tryd.prog 22 #[.agg (pktC p D)] V fun e w' => e = .returned (pktV (bareP p) (bareD p D)) ∧ Below V.heap.size V w') := Lib.hid fun V hV => rBare_any p D (hD.mono hV)
  have HSM : Hid (∀ V : World, Below w.heap.size w V → Calls Tryd.prog 16 #[.agg (pktC p D), pktV (bareP p) (bareD p D)] V fun e w' => e = .returned (.bool (decide (p = bareP p))) ∧ Below V.heap.size V w') := Lib.hid fun V hV => rSame_any p (bareP p) D (bareD p D) (hD.mono hV) (bare_at (hD.mono hV)) hF.octs (bare_octs hF.octs)
  have HPC : Hid (∀ V : World, Calls Tryd.prog 23 #[.agg #[.int .i64 p.size, .int .i64 p.symbol, .int .i64 p.blocks, .int .i64 p.long, .int .i64 p.short]] V fun e w' => e = .returned (.int .i64 (planC p.size p.symbol p.blocks p.long p.short)) ∧ Below V.heap.size V w') := Lib.hid fun V => rbCheck_any _ _ _ _ _ hF.size hF.symbol hF.blocks hF.long hF.short
  have HFI : Hid (RangedP p → (FormP p ↔ p = bareP p ∧ ¬ ((p.kind = 1 ∧ (p.data.length < 1 ∨ 64 < p.data.length)) ∨ (p.kind = 2 ∧ planC p.size p.symbol p.blocks p.long p.short ≠ 0)))) := Lib.hid fun h => form_iff p h.k1 h.k2
  unfold pktC at HW HRG HBR HSM
  unfold pktV pktC
  clear hW1 hb1 hx1
  go_enter Tryd.func10, Tryd.ntmps10
  go_upto_region 1 with fail
  rw [← HW.out]
  go_wp2_with ((with_reducible show wpList _ _ _ (⟨some 3, _, _, _, _, _⟩ :: _) _ _); refine wpList_load_row rfl 26 (.tmp 1) rfl w.heap.size rfl 26 (pktC p D) (0, 0) _ HX.out Tryd.underlying26 rfl (by kernel_rfl) ?_; unfold pktC)
  refine (HRG.out _).mono ?_
  rintro e w2 ⟨b, rfl, hr, hb2⟩
  have HB2 := Lib.hid (HB.out.trans (hb2.mono HB.out.size))
  have HX2 := Lib.hid (HX.out.mono hb2)
  have HR := Lib.hid hr
  clear hb2 hr
  cases b with
  | false =>
    have HN : Hid (ckN p = 1) := Lib.hid (ckN_one fun h => by have := HR.out.2 h; cases this)
    go_wp2
    go_ret
    exact ⟨by rw [HN.out]; rfl, HB2.out⟩
  | true =>
    have HRP := Lib.hid (HR.out.1 rfl)
    go_upto_region 3 with fail
    refine wp_region_quiet (C := fun V => Below w2.heap.size w2 V) (by kernel_rfl) (by kernel_rfl) ((Below.refl _ _).drew) ?_
    dsimp only
    refine BigFrame.wpQuiet_want rfl (fun K hK => ⟨.agg (pktC p D), fun V hV => ?_, hK _ ?_⟩)
    · exact quietAt_loadRow 26 (.tmp 1) rfl w.heap.size rfl 26 (pktC p D) (0, 0) _ (HX2.out.mono hV) Tryd.underlying26 rfl (by kernel_rfl)
    clear hK K
    refine BigFrame.wpQuiet_want rfl (fun K hK => ⟨.agg (pktC p D), fun V hV => ?_, hK _ ?_⟩)
    · exact quietAt_loadRow 26 (.tmp 1) rfl w.heap.size rfl 26 (pktC p D) (0, 0) _ (HX2.out.mono hV) Tryd.underlying26 rfl (by kernel_rfl)
    clear hK K
    unfold pktC
    refine BigFrame.wpQuiet_want rfl (fun K hK => ⟨pktV (bareP p) (bareD p D), fun V hV => ?_, hK _ ?_⟩)
    · go_simp
      refine (HBR.out V (HB2.out.trans (hV.mono HB2.out.size))).mono ?_
      rintro e w' ⟨rfl, hb⟩
      exact ⟨rfl, hV.trans (hb.mono hV.size)⟩
    clear hK K
    refine BigFrame.wpQuiet_want rfl (fun K hK => ⟨.bool (decide (p = bareP p)), fun V hV => ?_, hK _ ?_⟩)
    · go_simp
      refine (HSM.out V (HB2.out.trans (hV.mono HB2.out.size))).mono ?_
      rintro e w' ⟨rfl, hb⟩
      exact ⟨rfl, hV.trans (hb.mono hV.size)⟩
    clear hK K
    repeat (first | go_big_quiet_step (fail) | (refine wpQuiet_step (fun K hK => ?_); go_simp; refine ⟨_, fun _ _ => rfl, hK _ ?_⟩; clear hK K))
    refine wpQuiet_nil ?_
    intro w3 hb3
    have HB3 := Lib.hid (HB2.out.trans (Below.mono hb3 HB2.out.size))
    have HX3 := Lib.hid (PktBox.mono HX2.out hb3)
    clear hb3
    obtain ⟨c0, -, -, -, -, -, -, -, -, -, c10, c11, c12, c13, c14, c15, -⟩ := HX3.out.cells
    have HF2 := Lib.hid (HFI.out HRP.out)
    clear HFI
    by_cases hbare : p = bareP p
    · rw [decide_eq_true hbare]
      have HBE := Lib.hid hbare
      clear hbare
      have HF3 : Hid (FormP p ↔ ¬ ((p.kind = 1 ∧ (p.data.length < 1 ∨ 64 < p.data.length)) ∨ (p.kind = 2 ∧ planC p.size p.symbol p.blocks p.long p.short ≠ 0))) := Lib.hid ⟨fun h => (HF2.out.1 h).2, fun h => HF2.out.2 ⟨HBE.out, h⟩⟩
      obtain ⟨ad, cd, hDe, -, -, -⟩ := HD.out
      subst hDe
      have hdl := HD.out.len
      by_cases hk : p.kind = 1
      · have e1 : (p.kind == 1) = true := by simp [hk]
        have e2 : (p.kind == 2) = false := by simp [hk]
        have HF4 : Hid (FormP p ↔ ¬ (p.data.length < 1 ∨ 64 < p.data.length)) := Lib.hid (by
          rw [HF3.out]
          constructor
          · exact fun h g => h (.inl ⟨hk, g⟩)
          · rintro h (⟨-, g⟩ | ⟨g, -⟩)
            · exact h g
            · omega)
        clear hk HF2 HF3
        by_cases g1 : p.data.length < 1
        · have d1 : decide ((p.data.length : Int) < 1) = true := decide_eq_true (by omega)
          have HN : Hid (ckN p = 2) := Lib.hid (ckN_two HRP.out fun h => HF4.out.1 h (.inl g1))
          clear g1 HF4
          go_wp2
          go_ret
          exact ⟨by rw [HN.out]; rfl, HB3.out⟩
        · have d1 : decide ((p.data.length : Int) < 1) = false := decide_eq_false (by omega)
          by_cases g2 : 64 < p.data.length
          · have d2 : decide (64 < (p.data.length : Int)) = true := decide_eq_true (by omega)
            have HN : Hid (ckN p = 2) := Lib.hid (ckN_two HRP.out fun h => HF4.out.1 h (.inr g2))
            clear g1 g2 HF4
            go_wp2
            go_ret
            exact ⟨by rw [HN.out]; rfl, HB3.out⟩
          · have d2 : decide (64 < (p.data.length : Int)) = false := decide_eq_false (by omega)
            have HN : Hid (ckN p = 0) := Lib.hid (ckN_zero.2 ⟨HRP.out, HF4.out.2 (by omega)⟩)
            clear g1 g2 HF4
            go_wp2
            go_ret
            exact ⟨by rw [HN.out]; rfl, HB3.out⟩
      · have hk2 : p.kind = 2 := by have := HRP.out.k1; have := HRP.out.k2; omega
        have e1 : (p.kind == 1) = false := by simp [hk]
        have e2 : (p.kind == 2) = true := by simp [hk2]
        have HF4 : Hid (FormP p ↔ planC p.size p.symbol p.blocks p.long p.short = 0) := Lib.hid (by
          rw [HF3.out]
          constructor
          · exact fun h => Classical.byContradiction fun g => h (.inr ⟨hk2, g⟩)
          · rintro h (⟨g, -⟩ | ⟨-, g⟩)
            · exact hk g
            · exact g h)
        clear hk hk2 HF2 HF3
        generalize planC p.size p.symbol p.blocks p.long p.short = n at *
        go_wp2_with fail
        refine (HPC.out _).mono ?_
        rintro e w4 ⟨rfl, hb4⟩
        have HB4 := Lib.hid (HB3.out.trans (hb4.mono HB3.out.size))
        clear hb4
        by_cases g1 : n = 0
        · have d1 : (n != 0) = false := by simp [g1]
          have HN : Hid (ckN p = 0) := Lib.hid (ckN_zero.2 ⟨HRP.out, HF4.out.2 g1⟩)
          clear g1 HF4
          go_wp2
          go_ret
          exact ⟨by rw [HN.out]; rfl, HB4.out⟩
        · have d1 : (n != 0) = true := by simp [g1]
          have HN : Hid (ckN p = 2) := Lib.hid (ckN_two HRP.out fun h => g1 (HF4.out.1 h))
          clear g1 HF4
          go_wp2
          go_ret
          exact ⟨by rw [HN.out]; rfl, HB4.out⟩
    · rw [decide_eq_false hbare]
      have HN : Hid (ckN p = 2) := Lib.hid (ckN_two HRP.out fun h => hbare (HF2.out.1 h).1)
      clear hbare
      go_wp2
      go_ret
      exact ⟨by rw [HN.out]; rfl, HB3.out⟩
end Go.Proofs.YtmihpbdgilmdiaaDoor
