import Derived.Laws.StructEq
import Derived.Deep.Cut
import Derived.Test.YtkfimdpcadbcpaaGreatDoorP01
import Derived.Test.YtkfimdpcadbcpaaGreatDoorP02
import Derived.Test.YtkfimdpcadbcpaaGreatDoorP04
import Derived.Test.YtkfimdpcadbcpaaGreatDoorP03
import Derived.Test.YtkfimdpcadbcpaaGreatDoorA33
set_option linter.unusedSimpArgs false
set_option linter.unusedVariables false
set_option maxRecDepth 1000000
set_option maxHeartbeats 8000000
namespace Go.Proofs.YtkfimdpcadbcpaaGreatDoor
section
open Go.RowKit Go.Extern.Stop Go.Stop Go.Extern
theorem yBU (p q : Pkt) (B : Bool) (h : B = true ↔ (p.kind = q.kind ∧ p.session = q.session ∧ p.layer = q.layer ∧ p.tick = q.tick ∧ p.burst = q.burst ∧ p.sync = q.sync) ∧ (p.many = q.many ∧ p.place = q.place ∧ p.block = q.block ∧ p.esi = q.esi ∧ p.data = q.data) ∧ (p.size = q.size ∧ p.symbol = q.symbol ∧ p.blocks = q.blocks ∧ p.long = q.long ∧ p.short = q.short) ∧ p.layers = q.layers ∧ p.esis = q.esis ∧ p.base = q.base ∧ p.length = q.length) : B = decide (p = q) := by
  by_cases e : p = q
  · subst e
    rw [h.2 (by simp)]; simp
  · rw [decide_eq_false e]
    cases B with
    | false => rfl
    | true =>
      exfalso
      obtain ⟨⟨h1, h2, h3, h4, h5, h6⟩, ⟨h7, h8, h9, h10, h11⟩, ⟨h12, h13, h14, h15, h16⟩, h17, h18, h19, h20⟩ := h.1 rfl
      exact e (Pkt.ext h1 h2 h3 h4 h5 h6 h7 h8 h9 h10 h11 h12 h13 h14 h15 h16 h17 h18 h19 h20)
theorem yBz {w : World} (p q : Pkt) (D E : Value) (hD : ListAt byteV w D p.data) (hE : ListAt byteV w E q.data) (ho : Octets p.data) (ho' : Octets q.data) :
    Calls Tryz.prog 73 #[pktV p D, pktV q E] w fun e w' => e = .returned (.bool (decide (p = q))) ∧ Below w.heap.size w w' := by
  obtain ⟨W1, hW1, hb1, hx1⟩ := zAz w p D
  obtain ⟨W2, hW2, hb2, hx2⟩ := zAz W1 q E
  have hsz : W1.heap.size = w.heap.size + 1 := by rw [hW1]; exact World.size_alloc ..
  have HB2 := lhd (hb1.trans (hb2.mono hb1.size))
  have hs := yAn ho ho'
  have hcD := (hD.mono HB2.out).str
  have hcE := (hE.mono HB2.out).str
  have hq1 := (hx1.mono hb2).cells
  have hq2 := hx2.cells
  rw [hsz] at hq2
  have HW : Hid ((w.alloc (.cells (pktC p D) 63)).alloc (.cells (pktC q E) 63) = W2) := lhd (by rw [← hW1, ← hW2])
  have HR := lhd (yBU p q)
  have hpe := fun w : World => zKn w p.size p.symbol p.blocks p.long p.short q.size q.symbol q.blocks q.long q.short
  have hpg := zH8
  clear hW1 hW2 hb1 hb2 hx1 hx2 hsz hD hE ho ho'
  obtain ⟨a0, a1, a2, a3, a4, a5, a6, a7, a8, a9, a10, a11, a12, a13, a14, a15, a16, a17, a18, a19⟩ := hq1
  obtain ⟨b0, b1, b2, b3, b4, b5, b6, b7, b8, b9, b10, b11, b12, b13, b14, b15, b16, b17, b18, b19⟩ := hq2
  unfold pktC at HW
  unfold pktV pktC
  generalize strN p.data = sp at *
  generalize strN q.data = sq at *
  obtain ⟨x0, hx0⟩ : ∃ B : Bool, (p.kind == q.kind) = B := ⟨_, rfl⟩
  obtain ⟨x1, hx1⟩ : ∃ B : Bool, (p.session == q.session) = B := ⟨_, rfl⟩
  obtain ⟨x2, hx2⟩ : ∃ B : Bool, (p.layer == q.layer) = B := ⟨_, rfl⟩
  obtain ⟨x3, hx3⟩ : ∃ B : Bool, (p.tick == q.tick) = B := ⟨_, rfl⟩
  obtain ⟨x4, hx4⟩ : ∃ B : Bool, (p.burst == q.burst) = B := ⟨_, rfl⟩
  obtain ⟨x5, hx5⟩ : ∃ B : Bool, (p.sync == q.sync) = B := ⟨_, rfl⟩
  obtain ⟨x6, hx6⟩ : ∃ B : Bool, (p.many == q.many) = B := ⟨_, rfl⟩
  obtain ⟨x7, hx7⟩ : ∃ B : Bool, (p.place == q.place) = B := ⟨_, rfl⟩
  obtain ⟨x8, hx8⟩ : ∃ B : Bool, (p.block == q.block) = B := ⟨_, rfl⟩
  obtain ⟨x9, hx9⟩ : ∃ B : Bool, (p.esi == q.esi) = B := ⟨_, rfl⟩
  obtain ⟨x10, hx10⟩ : ∃ B : Bool, decide (p.data = q.data) = B := ⟨_, rfl⟩
  obtain ⟨x11, hx11⟩ : ∃ B : Bool, decide (p.size = q.size ∧ p.symbol = q.symbol ∧ p.blocks = q.blocks ∧ p.long = q.long ∧ p.short = q.short) = B := ⟨_, rfl⟩
  obtain ⟨x12, hx12⟩ : ∃ B : Bool, (p.layers == q.layers) = B := ⟨_, rfl⟩
  obtain ⟨x13, hx13⟩ : ∃ B : Bool, (p.esis == q.esis) = B := ⟨_, rfl⟩
  obtain ⟨x14, hx14⟩ : ∃ B : Bool, (p.base == q.base) = B := ⟨_, rfl⟩
  obtain ⟨x15, hx15⟩ : ∃ B : Bool, (p.length == q.length) = B := ⟨_, rfl⟩
  rw [hx10] at hs
  have HX : Hid (((x0 && x1 && x2 && x3 && x4 && x5) && (x6 && x7 && x8 && x9 && x10) && (x11 && x12 && x13 && x14 && x15)) = decide (p = q)) := lhd (HR.out _ (by
    simp only [← hx0, ← hx1, ← hx2, ← hx3, ← hx4, ← hx5, ← hx6, ← hx7, ← hx8, ← hx9, ← hx10, ← hx11, ← hx12, ← hx13, ← hx14, ← hx15, Bool.and_eq_true, beq_iff_eq, decide_eq_true_eq, and_assoc]))
  rw [hx11] at hpe
  clear hx10 hx11 HR
  go_enter Tryz.func73, Tryz.ntmps73
  go_upto_region 1 with fail
  rw [HW.out]
  go_cut [5] from 7 (fun x wx => x = .bool (x0 && x1 && x2 && x3 && x4 && x5) ∧ wx = W2)
  case first =>
    cases x0 with
    | false =>
      go_wp2
      go_meet
      exact ⟨by simp, rfl⟩
    | true =>
      cases x1 with
      | false =>
        go_wp2
        go_meet
        exact ⟨by simp, rfl⟩
      | true =>
        cases x2 with
        | false =>
          go_wp2
          go_meet
          exact ⟨by simp, rfl⟩
        | true =>
          cases x3 with
          | false =>
            go_wp2
            go_meet
            exact ⟨by simp, rfl⟩
          | true =>
            cases x4 with
            | false =>
              go_wp2
              go_meet
              exact ⟨by simp, rfl⟩
            | true =>
              cases x5 with
              | false =>
                go_wp2
                go_meet
                exact ⟨by simp, rfl⟩
              | true =>
                go_wp2
                go_meet
                exact ⟨rfl, rfl⟩
  case rest =>
    obtain ⟨rfl, rfl⟩ := hcut
    go_upto_region 2 with fail
    go_cut [6] from 7 (fun x wy => x = .bool (x6 && x7 && x8 && x9 && x10) ∧ wy = wc)
    case first =>
      cases x6 with
      | false =>
        go_wp2
        go_meet
        exact ⟨by simp, rfl⟩
      | true =>
        cases x7 with
        | false =>
          go_wp2
          go_meet
          exact ⟨by simp, rfl⟩
        | true =>
          cases x8 with
          | false =>
            go_wp2
            go_meet
            exact ⟨by simp, rfl⟩
          | true =>
            cases x9 with
            | false =>
              go_wp2
              go_meet
              exact ⟨by simp, rfl⟩
            | true =>
              cases x10 with
              | false =>
                go_wp2
                go_meet
                exact ⟨by simp, rfl⟩
              | true =>
                go_wp2
                go_meet
                exact ⟨rfl, rfl⟩
    case rest =>
      obtain ⟨rfl, rfl⟩ := hcut
      generalize (x0 && x1 && x2 && x3 && x4 && x5) = H at *
      generalize (x6 && x7 && x8 && x9 && x10) = M at *
      cases H with
      | false =>
        go_wp2
        go_ret
        exact ⟨by rw [← HX.out]; simp, HB2.out⟩
      | true =>
        cases M with
        | false =>
          go_wp2
          go_ret
          exact ⟨by rw [← HX.out]; simp, HB2.out⟩
        | true =>
          cases x11 with
          | false =>
            go_wp2
            go_ret
            exact ⟨by rw [← HX.out]; simp, HB2.out⟩
          | true =>
            cases x12 with
            | false =>
              go_wp2
              go_ret
              exact ⟨by rw [← HX.out]; simp, HB2.out⟩
            | true =>
              cases x13 with
              | false =>
                go_wp2
                go_ret
                exact ⟨by rw [← HX.out]; simp, HB2.out⟩
              | true =>
                cases x14 with
                | false =>
                  go_wp2
                  go_ret
                  exact ⟨by rw [← HX.out]; simp, HB2.out⟩
                | true =>
                  cases x15 with
                  | false =>
                    go_wp2
                    go_ret
                    exact ⟨by rw [← HX.out]; simp, HB2.out⟩
                  | true =>
                    go_wp2
                    go_ret
                    exact ⟨by rw [← HX.out]; simp, HB2.out⟩
end

section
open Go.RowKit Go.Extern.Stop Go.Stop Go.Extern
theorem yBR (p : Pkt) (h1 : 1 ≤ p.kind) (h2 : p.kind ≤ 2) : FormP p ↔ p = bareP p ∧ ¬ ((p.kind = 1 ∧ (p.data.length < 1 ∨ 64 < p.data.length)) ∨ (p.kind = 2 ∧ planC p.size p.symbol p.blocks p.long p.short ≠ 0)) := by
  constructor
  · intro h
    by_cases hk : p.kind = 1
    · obtain ⟨⟨f1, f2, f3, f4, f5⟩, f6, f7, f8, f9, f10, f11⟩ := h.d hk
      refine ⟨?_, ?_⟩
      · unfold bareP
        rw [if_pos hk]
        ext1 <;> first | rfl | assumption
      · rintro (⟨-, g⟩ | ⟨g, -⟩) <;> omega
    · have hk2 : p.kind = 2 := by omega
      obtain ⟨f1, f2, f3, f4, f5, f6, f7, f8⟩ := h.a hk2
      refine ⟨?_, ?_⟩
      · unfold bareP
        rw [if_neg hk]
        ext1 <;> first | rfl | assumption
      · rintro (⟨g, -⟩ | ⟨-, g⟩)
        · exact hk g
        · exact g f8
  · rintro ⟨he, hn⟩
    refine ⟨fun hk => ?_, fun hk => ?_⟩
    · unfold bareP at he
      rw [if_pos hk] at he
      have e := congrArg (fun q : Pkt => (q.size, q.symbol, q.blocks, q.long, q.short, q.layers, q.esis, q.base, q.length)) he
      simp only [Prod.mk.injEq] at e
      obtain ⟨e1, e2, e3, e4, e5, e6, e7, e8, e9⟩ := e
      refine ⟨⟨e1, e2, e3, e4, e5⟩, e6, e7, e8, e9, ?_, ?_⟩
      · rcases Nat.lt_or_ge p.data.length 1 with g | g
        · exact absurd (.inl ⟨hk, .inl g⟩) hn
        · exact g
      · rcases Nat.lt_or_ge 64 p.data.length with g | g
        · exact absurd (.inl ⟨hk, .inr g⟩) hn
        · exact g
    · unfold bareP at he
      rw [if_neg (by omega)] at he
      have e := congrArg (fun q : Pkt => (q.burst, q.sync, q.many, q.place, q.block, q.esi, q.data)) he
      simp only [Prod.mk.injEq] at e
      obtain ⟨e1, e2, e3, e4, e5, e6, e7⟩ := e
      refine ⟨e1, e2, e3, e4, e5, e6, e7, ?_⟩
      exact Classical.byContradiction fun g => hn (.inr ⟨hk, g⟩)
theorem yBn {p : Pkt} (h : Octets p.data) : Octets (bareP p).data := by
  unfold bareP
  split
  · exact h
  · intro x hx; cases hx
theorem yAO {w : World} (p : Pkt) (D : Value) (hD : ListAt byteV w D p.data) (hF : FitsP p) : Calls Tryz.prog 45 #[pktV p D] w fun e w' => e = .returned (.int .i64 (ckN p)) ∧ Below w.heap.size w w' := by
  obtain ⟨W1, hW1, hb1, hx1⟩ := zAz w p D
  have HB := lhd hb1
  have HW := lhd hW1
  have HX := lhd hx1
  have HD := lhd hD
  have HRG : Hid (∀ V : World, Calls Tryz.prog 72 #[.agg (pktC p D)] V fun e w' => ∃ b : Bool, e = .returned (.bool b) ∧ (b = true ↔ RangedP p) ∧ Below V.heap.size V w') := lhd fun V => yA0 p D hF
  have HBR : Hid (∀ V : World, Below w.heap.size w V → Calls Tryz.prog 74 #[.agg (pktC p D)] V fun e w' => e = .returned (pktV (bareP p) (bareD p D)) ∧ Below V.heap.size V w') := lhd fun V hV => yBv p D (hD.mono hV)
  have HSM : Hid (∀ V : World, Below w.heap.size w V → Calls Tryz.prog 73 #[.agg (pktC p D), pktV (bareP p) (bareD p D)] V fun e w' => e = .returned (.bool (decide (p = bareP p))) ∧ Below V.heap.size V w') := lhd fun V hV => yBz p (bareP p) D (bareD p D) (hD.mono hV) (yB3 (hD.mono hV)) hF.octs (yBn hF.octs)
  have HPC : Hid (∀ V : World, Calls Tryz.prog 75 #[.agg #[.int .i64 p.size, .int .i64 p.symbol, .int .i64 p.blocks, .int .i64 p.long, .int .i64 p.short]] V fun e w' => e = .returned (.int .i64 (planC p.size p.symbol p.blocks p.long p.short)) ∧ Below V.heap.size V w') := lhd fun V => yAX _ _ _ _ _ hF.size hF.symbol hF.blocks hF.long hF.short
  have HFI : Hid (RangedP p → (FormP p ↔ p = bareP p ∧ ¬ ((p.kind = 1 ∧ (p.data.length < 1 ∨ 64 < p.data.length)) ∨ (p.kind = 2 ∧ planC p.size p.symbol p.blocks p.long p.short ≠ 0)))) := lhd fun h => yBR p h.k1 h.k2
  unfold pktC at HW HRG HBR HSM
  unfold pktV pktC
  clear hW1 hb1 hx1
  go_enter Tryz.func45, Tryz.ntmps45
  go_upto_region 1 with fail
  rw [← HW.out]
  go_wp2_with ((with_reducible show wpList _ _ _ (⟨some 3, _, _, _, _, _⟩ :: _) _ _); refine wpList_load_row rfl 63 (.tmp 1) rfl w.heap.size rfl 63 (pktC p D) (0, 0) _ HX.out Tryz.underlying63 rfl (by kernel_rfl) ?_; unfold pktC)
  refine (HRG.out _).mono ?_
  rintro e w2 ⟨b, rfl, hr, hb2⟩
  have HB2 := lhd (HB.out.trans (hb2.mono HB.out.size))
  have HX2 := lhd (HX.out.mono hb2)
  have HR := lhd hr
  clear hb2 hr
  cases b with
  | false =>
    have HN : Hid (ckN p = 1) := lhd (zMt fun h => by have := HR.out.2 h; cases this)
    go_wp2
    go_ret
    exact ⟨by rw [HN.out]; rfl, HB2.out⟩
  | true =>
    have HRP := lhd (HR.out.1 rfl)
    go_upto_region 3 with fail
    refine wp_region_quiet (C := fun V => Below w2.heap.size w2 V) (by kernel_rfl) (by kernel_rfl) ((Below.refl _ _).drew) ?_
    dsimp only
    refine BigFrame.wpQuiet_want rfl (fun K hK => ⟨.agg (pktC p D), fun V hV => ?_, hK _ ?_⟩)
    · exact yAh 63 (.tmp 1) rfl w.heap.size rfl 63 (pktC p D) (0, 0) _ (HX2.out.mono hV) Tryz.underlying63 rfl (by kernel_rfl)
    clear hK K
    refine BigFrame.wpQuiet_want rfl (fun K hK => ⟨.agg (pktC p D), fun V hV => ?_, hK _ ?_⟩)
    · exact yAh 63 (.tmp 1) rfl w.heap.size rfl 63 (pktC p D) (0, 0) _ (HX2.out.mono hV) Tryz.underlying63 rfl (by kernel_rfl)
    clear hK K
    unfold pktC
    refine BigFrame.wpQuiet_want rfl (fun K hK => ⟨pktV (bareP p) (bareD p D), fun V hV => ?_, hK _ ?_⟩)
    · go_simp
      refine (HBR.out V (HB2.out.trans (hV.mono HB2.out.size))).mono ?_
      rintro e w' ⟨rfl, hb⟩
      exact ⟨rfl, hV.trans (hb.mono hV.size)⟩
    clear hK K
    refine BigFrame.wpQuiet_want rfl (fun K hK => ⟨.bool (decide (p = bareP p)), fun V hV => ?_, hK _ ?_⟩)
    · go_simp
      refine (HSM.out V (HB2.out.trans (hV.mono HB2.out.size))).mono ?_
      rintro e w' ⟨rfl, hb⟩
      exact ⟨rfl, hV.trans (hb.mono hV.size)⟩
    clear hK K
    repeat (first | go_big_quiet_step (fail) | (refine wpQuiet_step (fun K hK => ?_); go_simp; refine ⟨_, fun _ _ => rfl, hK _ ?_⟩; clear hK K))
    refine wpQuiet_nil ?_
    intro w3 hb3
    have HB3 := lhd (HB2.out.trans (Below.mono hb3 HB2.out.size))
    have HX3 := lhd (PktBox.mono HX2.out hb3)
    clear hb3
    obtain ⟨c0, -, -, -, -, -, -, -, -, -, c10, c11, c12, c13, c14, c15, -⟩ := HX3.out.cells
    have HF2 := lhd (HFI.out HRP.out)
    clear HFI
    by_cases hbare : p = bareP p
    · rw [decide_eq_true hbare]
      have HBE := lhd hbare
      clear hbare
      have HF3 : Hid (FormP p ↔ ¬ ((p.kind = 1 ∧ (p.data.length < 1 ∨ 64 < p.data.length)) ∨ (p.kind = 2 ∧ planC p.size p.symbol p.blocks p.long p.short ≠ 0))) := lhd ⟨fun h => (HF2.out.1 h).2, fun h => HF2.out.2 ⟨HBE.out, h⟩⟩
      obtain ⟨ad, cd, hDe, -, -, -⟩ := HD.out
      subst hDe
      have hdl := HD.out.len
      by_cases hk : p.kind = 1
      · have e1 : (p.kind == 1) = true := by simp [hk]
        have e2 : (p.kind == 2) = false := by simp [hk]
        have HF4 : Hid (FormP p ↔ ¬ (p.data.length < 1 ∨ 64 < p.data.length)) := lhd (by
          rw [HF3.out]
          constructor
          · exact fun h g => h (.inl ⟨hk, g⟩)
          · rintro h (⟨-, g⟩ | ⟨g, -⟩)
            · exact h g
            · omega)
        clear hk HF2 HF3
        by_cases g1 : p.data.length < 1
        · have d1 : decide ((p.data.length : Int) < 1) = true := decide_eq_true (by omega)
          have HN : Hid (ckN p = 2) := lhd (zMm HRP.out fun h => HF4.out.1 h (.inl g1))
          clear g1 HF4
          go_wp2
          go_ret
          exact ⟨by rw [HN.out]; rfl, HB3.out⟩
        · have d1 : decide ((p.data.length : Int) < 1) = false := decide_eq_false (by omega)
          by_cases g2 : 64 < p.data.length
          · have d2 : decide (64 < (p.data.length : Int)) = true := decide_eq_true (by omega)
            have HN : Hid (ckN p = 2) := lhd (zMm HRP.out fun h => HF4.out.1 h (.inr g2))
            clear g1 g2 HF4
            go_wp2
            go_ret
            exact ⟨by rw [HN.out]; rfl, HB3.out⟩
          · have d2 : decide (64 < (p.data.length : Int)) = false := decide_eq_false (by omega)
            have HN : Hid (ckN p = 0) := lhd (ckN_zero.2 ⟨HRP.out, HF4.out.2 (by omega)⟩)
            clear g1 g2 HF4
            go_wp2
            go_ret
            exact ⟨by rw [HN.out]; rfl, HB3.out⟩
      · have hk2 : p.kind = 2 := by have := HRP.out.k1; have := HRP.out.k2; omega
        have e1 : (p.kind == 1) = false := by simp [hk]
        have e2 : (p.kind == 2) = true := by simp [hk2]
        have HF4 : Hid (FormP p ↔ planC p.size p.symbol p.blocks p.long p.short = 0) := lhd (by
          rw [HF3.out]
          constructor
          · exact fun h => Classical.byContradiction fun g => h (.inr ⟨hk2, g⟩)
          · rintro h (⟨g, -⟩ | ⟨-, g⟩)
            · exact hk g
            · exact g h)
        clear hk hk2 HF2 HF3
        generalize planC p.size p.symbol p.blocks p.long p.short = n at *
        go_wp2_with fail
        refine (HPC.out _).mono ?_
        rintro e w4 ⟨rfl, hb4⟩
        have HB4 := lhd (HB3.out.trans (hb4.mono HB3.out.size))
        clear hb4
        by_cases g1 : n = 0
        · have d1 : (n != 0) = false := by simp [g1]
          have HN : Hid (ckN p = 0) := lhd (ckN_zero.2 ⟨HRP.out, HF4.out.2 g1⟩)
          clear g1 HF4
          go_wp2
          go_ret
          exact ⟨by rw [HN.out]; rfl, HB4.out⟩
        · have d1 : (n != 0) = true := by simp [g1]
          have HN : Hid (ckN p = 2) := lhd (zMm HRP.out fun h => g1 (HF4.out.1 h))
          clear g1 HF4
          go_wp2
          go_ret
          exact ⟨by rw [HN.out]; rfl, HB4.out⟩
    · rw [decide_eq_false hbare]
      have HN : Hid (ckN p = 2) := lhd (zMm HRP.out fun h => hbare (HF2.out.1 h).1)
      clear hbare
      go_wp2
      go_ret
      exact ⟨by rw [HN.out]; rfl, HB3.out⟩
end
end Go.Proofs.YtkfimdpcadbcpaaGreatDoor
