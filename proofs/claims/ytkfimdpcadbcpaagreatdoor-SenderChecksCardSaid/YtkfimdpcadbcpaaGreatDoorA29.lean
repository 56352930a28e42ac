import Derived.OwnWalk
import Derived.Deep.AppendLies
import Derived.Deep.RegionLaw
import Derived.Laws.AppendOwnNone
import Derived.Deep.Cut
import Derived.Test.YtkfimdpcadbcpaaGreatDoorA12
import Derived.Test.YtkfimdpcadbcpaaGreatDoorA11
import Derived.Test.YtkfimdpcadbcpaaGreatDoorA08
import Derived.Test.YtkfimdpcadbcpaaGreatDoorA02
import Derived.Test.YtkfimdpcadbcpaaGreatDoorA23
import Derived.Test.YtkfimdpcadbcpaaGreatDoorA01
set_option linter.unusedSimpArgs false
set_option linter.unusedVariables false
set_option maxRecDepth 1000000
set_option maxHeartbeats 8000000
namespace Go.Proofs.YtkfimdpcadbcpaaGreatDoor
section
open Go.RowKit Go.Extern.Stop Go.Stop Go.Extern
def inB (n lo hi : Int) : Bool := decide (lo ≤ n) && decide (n ≤ hi)
theorem zJN {n lo hi : Int} : inB n lo hi = true ↔ lo ≤ n ∧ n ≤ hi := by simp [inB]
theorem zGS {V : World} (n lo hi : Int) : Calls Tryz.prog 222 #[.int .i64 n, .int .i64 lo, .int .i64 hi] V fun e w' => e = .returned (.bool (inB n lo hi)) ∧ w' = V := by
  have HB : Hid (inB n lo hi = (decide (lo ≤ n) && decide (n ≤ hi))) := lhd rfl
  cases ha : decide (lo ≤ n) with
  | false =>
    go_enter Tryz.func222, Tryz.ntmps222
    go_wp2
    go_ret
    exact ⟨by rw [HB.out, ha]; rfl, rfl⟩
  | true =>
    go_enter Tryz.func222, Tryz.ntmps222
    go_wp2
    go_ret
    exact ⟨by rw [HB.out, ha]; rfl, rfl⟩
def rangedB (p : Pkt) : Bool := (inB p.session 0 65535 && inB p.layer 0 7 && inB p.tick 0 1099511627775) &&
  (((p.kind == 1) && (inB p.sync (-1) 7 && inB p.many 1 4096 && inB p.place 0 (p.many - 1) && inB p.block 0 15 && inB p.esi 0 65535)) ||
   ((p.kind == 2) && ((p.layer == 0) && decide (p.size ≤ 4294967295) && inB p.layers 1 8 && inB p.esis 1 65536 && inB p.base 2 4096 && inB p.length 1 (p.base - 1))))
theorem zGi (p : Pkt) : rangedB p = true ↔ RangedP p := by
  simp only [rangedB, Bool.and_eq_true, Bool.or_eq_true, zJN, beq_iff_eq, decide_eq_true_eq]
  constructor
  · rintro ⟨⟨⟨⟨s1, s2⟩, l1, l2⟩, t1, t2⟩, (⟨hk, ⟨⟨⟨h1, h2⟩, h3⟩, h4⟩, h5⟩ | ⟨hk, ⟨⟨⟨⟨h1, h2⟩, h3⟩, h4⟩, h5⟩, h6⟩)⟩
    · exact ⟨by omega, by omega, s1, s2, l1, l2, t1, t2, fun _ => ⟨h1, h2, h3, h4, h5⟩, fun h => by omega⟩
    · exact ⟨by omega, by omega, s1, s2, l1, l2, t1, t2, fun h => by omega, fun _ => ⟨h1, h2, h3, h4, h5, h6⟩⟩
  · intro h
    refine ⟨⟨⟨⟨h.s1, h.s2⟩, h.l1, h.l2⟩, h.t1, h.t2⟩, ?_⟩
    by_cases hk : p.kind = 1
    · obtain ⟨h1, h2, h3, h4, h5⟩ := h.d hk
      exact .inl ⟨hk, ⟨⟨⟨h1, h2⟩, h3⟩, h4⟩, h5⟩
    · have hk2 : p.kind = 2 := by have := h.k1; have := h.k2; omega
      obtain ⟨h1, h2, h3, h4, h5, h6⟩ := h.a hk2
      exact .inr ⟨hk2, ⟨⟨⟨⟨h1, h2⟩, h3⟩, h4⟩, h5⟩, h6⟩
def wlFormedB (p : Pkt) : Bool :=
  if p.kind = 1 then decide (p.size = 0 ∧ p.symbol = 0 ∧ p.blocks = 0 ∧ p.long = 0 ∧ p.short = 0) && (p.layers == 0) && (p.esis == 0) && (p.base == 0) && (p.length == 0) && inB p.data.length 1 64
  else (!p.burst) && (p.sync == 0) && (p.many == 0) && (p.place == 0) && (p.block == 0) && (p.esi == 0) && ((p.data.length : Int) == 0) && (planC p.size p.symbol p.blocks p.long p.short == 0)
theorem zC5 {p : Pkt} (hr : RangedP p) : wlFormedB p = true ↔ FormP p := by
  unfold wlFormedB
  by_cases hk : p.kind = 1
  · rw [if_pos hk]
    simp only [Bool.and_eq_true, zJN, beq_iff_eq, decide_eq_true_eq]
    constructor
    · rintro ⟨⟨⟨⟨⟨h1, h2⟩, h3⟩, h4⟩, h5⟩, h6, h7⟩
      exact ⟨fun _ => ⟨h1, h2, h3, h4, h5, by omega, by omega⟩, fun h => by omega⟩
    · intro h
      obtain ⟨h1, h2, h3, h4, h5, h6, h7⟩ := h.d hk
      exact ⟨⟨⟨⟨⟨h1, h2⟩, h3⟩, h4⟩, h5⟩, by omega, by omega⟩
  · rw [if_neg hk]
    have hk2 : p.kind = 2 := by have := hr.k1; have := hr.k2; omega
    simp only [Bool.and_eq_true, beq_iff_eq, Bool.not_eq_true']
    constructor
    · rintro ⟨⟨⟨⟨⟨⟨⟨h1, h2⟩, h3⟩, h4⟩, h5⟩, h6⟩, h7⟩, h8⟩
      exact ⟨fun h => absurd h hk, fun _ => ⟨h1, h2, h3, h4, h5, h6, List.eq_nil_of_length_eq_zero (by omega), h8⟩⟩
    · intro h
      obtain ⟨h1, h2, h3, h4, h5, h6, h7, h8⟩ := h.a hk2
      exact ⟨⟨⟨⟨⟨⟨⟨h1, h2⟩, h3⟩, h4⟩, h5⟩, h6⟩, by rw [h7]; rfl⟩, h8⟩
theorem zFB {w : World} (p : Pkt) (D : Value) (hF : FitsP p) : Calls Tryz.prog 201 #[pktV p D] w fun e w' => ∃ b : Bool, e = .returned (.bool b) ∧ (b = true ↔ RangedP p) ∧ Below w.heap.size w w' := by
  obtain ⟨W1, hW1, hb1, hx1⟩ := zAz w p D
  have HB := lhd hb1
  have HW := lhd hW1
  have HR : Hid (∀ b : Bool, rangedB p = b → (b = true ↔ RangedP p)) := lhd fun b h => by rw [← h]; exact zGi p
  have HC : Hid (∀ (V : World) (n lo hi : Int), Calls Tryz.prog 222 #[.int .i64 n, .int .i64 lo, .int .i64 hi] V fun e w' => e = .returned (.bool (inB n lo hi)) ∧ w' = V) := lhd fun V n lo hi => zGS n lo hi
  have HM : Hid (inB p.many 1 4096 = true → IntKind.i64.wrap (p.many - 1) = p.many - 1) := lhd fun h => by have := zJN.1 h; exact IntWalk.i64_in _ (by omega)
  have HL : Hid (inB p.base 2 4096 = true → IntKind.i64.wrap (p.base - 1) = p.base - 1) := lhd fun h => by have := zJN.1 h; exact IntWalk.i64_in _ (by omega)
  obtain ⟨c0, c1, c2, c3, -, c5, c6, c7, c8, c9, -, c11, -, -, -, -, c16, c17, c18, c19⟩ := hx1.cells
  unfold pktC at HW
  unfold pktV pktC
  clear hW1 hb1 hx1 hF
  go_enter Tryz.func201, Tryz.ntmps201
  go_upto_region 1 with fail
  rw [← HW.out]
  cases hx0 : inB p.session 0 65535 with
  | false =>
    go_wp2_with fail
    refine (HC.out _ p.session 0 65535).mono ?_
    rintro e w1 ⟨rfl, rfl⟩
    rw [hx0]
    go_wp2
    go_ret
    exact ⟨false, rfl, HR.out _ (by simp only [rangedB, hx0]; rfl), HB.out⟩
  | true =>
    go_wp2_with fail
    refine (HC.out _ p.session 0 65535).mono ?_
    rintro e w1 ⟨rfl, rfl⟩
    rw [hx0]
    cases hx1 : inB p.layer 0 7 with
    | false =>
      go_wp2_with fail
      refine (HC.out _ p.layer 0 7).mono ?_
      rintro e w1 ⟨rfl, rfl⟩
      rw [hx1]
      go_wp2
      go_ret
      exact ⟨false, rfl, HR.out _ (by simp only [rangedB, hx0, hx1]; rfl), HB.out⟩
    | true =>
      go_wp2_with fail
      refine (HC.out _ p.layer 0 7).mono ?_
      rintro e w1 ⟨rfl, rfl⟩
      rw [hx1]
      cases hx2 : inB p.tick 0 1099511627775 with
      | false =>
        go_wp2_with fail
        refine (HC.out _ p.tick 0 1099511627775).mono ?_
        rintro e w1 ⟨rfl, rfl⟩
        rw [hx2]
        go_wp2
        go_ret
        exact ⟨false, rfl, HR.out _ (by simp only [rangedB, hx0, hx1, hx2]; rfl), HB.out⟩
      | true =>
        go_wp2_with fail
        refine (HC.out _ p.tick 0 1099511627775).mono ?_
        rintro e w1 ⟨rfl, rfl⟩
        rw [hx2]
        cases k1 : (p.kind == 1) with
        | true =>
          have k2 : (p.kind == 2) = false := by have := eq_of_beq k1; simp [this]
          cases hy0 : inB p.sync (-1) 7 with
          | false =>
            go_wp2_with fail
            refine (HC.out _ p.sync (-1) 7).mono ?_
            rintro e w1 ⟨rfl, rfl⟩
            rw [hy0]
            go_wp2
            go_ret
            exact ⟨false, rfl, HR.out _ (by simp only [rangedB, hx0, hx1, hx2, k1, k2, hy0]; rfl), HB.out⟩
          | true =>
            go_wp2_with fail
            refine (HC.out _ p.sync (-1) 7).mono ?_
            rintro e w1 ⟨rfl, rfl⟩
            rw [hy0]
            cases hy1 : inB p.many 1 4096 with
            | false =>
              go_wp2_with fail
              refine (HC.out _ p.many 1 4096).mono ?_
              rintro e w1 ⟨rfl, rfl⟩
              rw [hy1]
              go_wp2
              go_ret
              exact ⟨false, rfl, HR.out _ (by simp only [rangedB, hx0, hx1, hx2, k1, k2, hy0, hy1]; rfl), HB.out⟩
            | true =>
              go_wp2_with fail
              refine (HC.out _ p.many 1 4096).mono ?_
              rintro e w1 ⟨rfl, rfl⟩
              rw [hy1]
              cases hy2 : inB p.place 0 (p.many - 1) with
              | false =>
                have hw := HM.out hy1
                go_wp2_with fail
                refine (HC.out _ p.place 0 (p.many - 1)).mono ?_
                rintro e w1 ⟨rfl, rfl⟩
                rw [hy2]
                go_wp2
                go_ret
                exact ⟨false, rfl, HR.out _ (by simp only [rangedB, hx0, hx1, hx2, k1, k2, hy0, hy1, hy2]; rfl), HB.out⟩
              | true =>
                have hw := HM.out hy1
                go_wp2_with fail
                refine (HC.out _ p.place 0 (p.many - 1)).mono ?_
                rintro e w1 ⟨rfl, rfl⟩
                rw [hy2]
                cases hy3 : inB p.block 0 15 with
                | false =>
                  go_wp2_with fail
                  refine (HC.out _ p.block 0 15).mono ?_
                  rintro e w1 ⟨rfl, rfl⟩
                  rw [hy3]
                  go_wp2
                  go_ret
                  exact ⟨false, rfl, HR.out _ (by simp only [rangedB, hx0, hx1, hx2, k1, k2, hy0, hy1, hy2, hy3]; rfl), HB.out⟩
                | true =>
                  go_wp2_with fail
                  refine (HC.out _ p.block 0 15).mono ?_
                  rintro e w1 ⟨rfl, rfl⟩
                  rw [hy3]
                  cases hy4 : inB p.esi 0 65535 with
                  | false =>
                    go_wp2_with fail
                    refine (HC.out _ p.esi 0 65535).mono ?_
                    rintro e w1 ⟨rfl, rfl⟩
                    rw [hy4]
                    go_wp2
                    go_ret
                    exact ⟨false, rfl, HR.out _ (by simp only [rangedB, hx0, hx1, hx2, k1, k2, hy0, hy1, hy2, hy3, hy4]; rfl), HB.out⟩
                  | true =>
                    go_wp2_with fail
                    refine (HC.out _ p.esi 0 65535).mono ?_
                    rintro e w1 ⟨rfl, rfl⟩
                    rw [hy4]
                    go_wp2
                    go_ret
                    exact ⟨true, rfl, HR.out _ (by simp only [rangedB, hx0, hx1, hx2, k1, k2, hy0, hy1, hy2, hy3, hy4]; rfl), HB.out⟩
        | false =>
          cases k2 : (p.kind == 2) with
          | false =>
            go_wp2
            go_ret
            exact ⟨false, rfl, HR.out _ (by simp only [rangedB, hx0, hx1, hx2, k1, k2]; rfl), HB.out⟩
          | true =>
            cases hz0 : (p.layer == 0) with
            | false =>
              go_wp2
              go_ret
              exact ⟨false, rfl, HR.out _ (by simp only [rangedB, hx0, hx1, hx2, k1, k2, hz0]; rfl), HB.out⟩
            | true =>
              cases hz1 : decide (p.size ≤ 4294967295) with
              | false =>
                go_wp2
                go_ret
                exact ⟨false, rfl, HR.out _ (by simp only [rangedB, hx0, hx1, hx2, k1, k2, hz0, hz1]; rfl), HB.out⟩
              | true =>
                cases hz2 : inB p.layers 1 8 with
                | false =>
                  go_wp2_with fail
                  refine (HC.out _ p.layers 1 8).mono ?_
                  rintro e w1 ⟨rfl, rfl⟩
                  rw [hz2]
                  go_wp2
                  go_ret
                  exact ⟨false, rfl, HR.out _ (by simp only [rangedB, hx0, hx1, hx2, k1, k2, hz0, hz1, hz2]; rfl), HB.out⟩
                | true =>
                  go_wp2_with fail
                  refine (HC.out _ p.layers 1 8).mono ?_
                  rintro e w1 ⟨rfl, rfl⟩
                  rw [hz2]
                  cases hz3 : inB p.esis 1 65536 with
                  | false =>
                    go_wp2_with fail
                    refine (HC.out _ p.esis 1 65536).mono ?_
                    rintro e w1 ⟨rfl, rfl⟩
                    rw [hz3]
                    go_wp2
                    go_ret
                    exact ⟨false, rfl, HR.out _ (by simp only [rangedB, hx0, hx1, hx2, k1, k2, hz0, hz1, hz2, hz3]; rfl), HB.out⟩
                  | true =>
                    go_wp2_with fail
                    refine (HC.out _ p.esis 1 65536).mono ?_
                    rintro e w1 ⟨rfl, rfl⟩
                    rw [hz3]
                    cases hz4 : inB p.base 2 4096 with
                    | false =>
                      go_wp2_with fail
                      refine (HC.out _ p.base 2 4096).mono ?_
                      rintro e w1 ⟨rfl, rfl⟩
                      rw [hz4]
                      go_wp2
                      go_ret
                      exact ⟨false, rfl, HR.out _ (by simp only [rangedB, hx0, hx1, hx2, k1, k2, hz0, hz1, hz2, hz3, hz4]; rfl), HB.out⟩
                    | true =>
                      go_wp2_with fail
                      refine (HC.out _ p.base 2 4096).mono ?_
                      rintro e w1 ⟨rfl, rfl⟩
                      rw [hz4]
                      cases hz5 : inB p.length 1 (p.base - 1) with
                      | false =>
                        have hw := HL.out hz4
                        go_wp2_with fail
                        refine (HC.out _ p.length 1 (p.base - 1)).mono ?_
                        rintro e w1 ⟨rfl, rfl⟩
                        rw [hz5]
                        go_wp2
                        go_ret
                        exact ⟨false, rfl, HR.out _ (by simp only [rangedB, hx0, hx1, hx2, k1, k2, hz0, hz1, hz2, hz3, hz4, hz5]; rfl), HB.out⟩
                      | true =>
                        have hw := HL.out hz4
                        go_wp2_with fail
                        refine (HC.out _ p.length 1 (p.base - 1)).mono ?_
                        rintro e w1 ⟨rfl, rfl⟩
                        rw [hz5]
                        go_wp2
                        go_ret
                        exact ⟨true, rfl, HR.out _ (by simp only [rangedB, hx0, hx1, hx2, k1, k2, hz0, hz1, hz2, hz3, hz4, hz5]; rfl), HB.out⟩
theorem zEG {w : World} (p : Pkt) (D : Value) (hD : ListAt byteV w D p.data) (hF : FitsP p) : Calls Tryz.prog 202 #[pktV p D] w fun e w' => e = .returned (.bool (wlFormedB p)) ∧ Below w.heap.size w w' := by
  obtain ⟨W1, hW1, hb1, hx1⟩ := zAz w p D
  have HB := lhd hb1
  have HW := lhd hW1
  have HR : Hid (∀ b : Bool, wlFormedB p = b → (Ending.returned (.bool b) : Ending) = .returned (.bool (wlFormedB p))) := lhd fun b h => by rw [h]
  have HC : Hid (∀ (V : World) (n lo hi : Int), Calls Tryz.prog 222 #[.int .i64 n, .int .i64 lo, .int .i64 hi] V fun e w' => e = .returned (.bool (inB n lo hi)) ∧ w' = V) := lhd fun V n lo hi => zGS n lo hi
  have HK : Hid (∀ V : World, Calls Tryz.prog 86 #[.agg #[.int .i64 p.size, .int .i64 p.symbol, .int .i64 p.blocks, .int .i64 p.long, .int .i64 p.short]] V fun e w' => ∃ E, e = .returned E ∧ ErrAns (planC p.size p.symbol p.blocks p.long p.short) nameBkCheck w' E ∧ Below V.heap.size V w') := lhd fun V => zBL _ _ _ _ _ hF.size hF.symbol hF.blocks hF.long hF.short
  have hpe := fun w : World => zKn w p.size p.symbol p.blocks p.long p.short 0 0 0 0 0
  have hpg := zH8
  have hdl := hD.len
  obtain ⟨ad, cd, rfl, -, -, -⟩ := hD
  obtain ⟨c0, -, -, -, c4, c5, c6, c7, c8, c9, c10, c11, c12, c13, c14, c15, c16, c17, c18, c19⟩ := hx1.cells
  have HUB : Hid (wlFormedB p = if p.kind = 1 then decide (p.size = 0 ∧ p.symbol = 0 ∧ p.blocks = 0 ∧ p.long = 0 ∧ p.short = 0) && (p.layers == 0) && (p.esis == 0) && (p.base == 0) && (p.length == 0) && inB p.data.length 1 64 else (!p.burst) && (p.sync == 0) && (p.many == 0) && (p.place == 0) && (p.block == 0) && (p.esi == 0) && ((p.data.length : Int) == 0) && (planC p.size p.symbol p.blocks p.long p.short == 0)) := lhd rfl
  unfold pktC at HW
  unfold pktV pktC
  clear hW1 hb1 hx1 hF
  go_enter Tryz.func202, Tryz.ntmps202
  go_upto_region 1 with fail
  rw [← HW.out]
  by_cases hk : p.kind = 1
  · have k1 : (p.kind == 1) = true := by simp [hk]
    have HKI : Hid ((if p.kind = 1 then decide (p.size = 0 ∧ p.symbol = 0 ∧ p.blocks = 0 ∧ p.long = 0 ∧ p.short = 0) && (p.layers == 0) && (p.esis == 0) && (p.base == 0) && (p.length == 0) && inB p.data.length 1 64 else (!p.burst) && (p.sync == 0) && (p.many == 0) && (p.place == 0) && (p.block == 0) && (p.esi == 0) && ((p.data.length : Int) == 0) && (planC p.size p.symbol p.blocks p.long p.short == 0)) = (decide (p.size = 0 ∧ p.symbol = 0 ∧ p.blocks = 0 ∧ p.long = 0 ∧ p.short = 0) && (p.layers == 0) && (p.esis == 0) && (p.base == 0) && (p.length == 0) && inB p.data.length 1 64)) := lhd (if_pos hk)
    clear hk
    cases ha0 : decide (p.size = 0 ∧ p.symbol = 0 ∧ p.blocks = 0 ∧ p.long = 0 ∧ p.short = 0) with
    | false =>
      go_wp2
      go_ret
      exact ⟨HR.out false (by rw [HUB.out, HKI.out]; simp only [ha0]; rfl), HB.out⟩
    | true =>
      cases ha1 : (p.layers == 0) with
      | false =>
        go_wp2
        go_ret
        exact ⟨HR.out false (by rw [HUB.out, HKI.out]; simp only [ha0, ha1]; rfl), HB.out⟩
      | true =>
        cases ha2 : (p.esis == 0) with
        | false =>
          go_wp2
          go_ret
          exact ⟨HR.out false (by rw [HUB.out, HKI.out]; simp only [ha0, ha1, ha2]; rfl), HB.out⟩
        | true =>
          cases ha3 : (p.base == 0) with
          | false =>
            go_wp2
            go_ret
            exact ⟨HR.out false (by rw [HUB.out, HKI.out]; simp only [ha0, ha1, ha2, ha3]; rfl), HB.out⟩
          | true =>
            cases ha4 : (p.length == 0) with
            | false =>
              go_wp2
              go_ret
              exact ⟨HR.out false (by rw [HUB.out, HKI.out]; simp only [ha0, ha1, ha2, ha3, ha4]; rfl), HB.out⟩
            | true =>
              cases ha5 : inB p.data.length 1 64 with
              | false =>
                go_wp2_with fail
                refine (HC.out _ p.data.length 1 64).mono ?_
                rintro e w1 ⟨rfl, rfl⟩
                rw [ha5]
                go_wp2
                go_ret
                exact ⟨HR.out false (by rw [HUB.out, HKI.out]; simp only [ha0, ha1, ha2, ha3, ha4, ha5]; rfl), HB.out⟩
              | true =>
                go_wp2_with fail
                refine (HC.out _ p.data.length 1 64).mono ?_
                rintro e w1 ⟨rfl, rfl⟩
                rw [ha5]
                go_wp2
                go_ret
                exact ⟨HR.out true (by rw [HUB.out, HKI.out]; simp only [ha0, ha1, ha2, ha3, ha4, ha5]; rfl), HB.out⟩
  · have k1 : (p.kind == 1) = false := by simp [hk]
    have HKI : Hid ((if p.kind = 1 then decide (p.size = 0 ∧ p.symbol = 0 ∧ p.blocks = 0 ∧ p.long = 0 ∧ p.short = 0) && (p.layers == 0) && (p.esis == 0) && (p.base == 0) && (p.length == 0) && inB p.data.length 1 64 else (!p.burst) && (p.sync == 0) && (p.many == 0) && (p.place == 0) && (p.block == 0) && (p.esi == 0) && ((p.data.length : Int) == 0) && (planC p.size p.symbol p.blocks p.long p.short == 0)) = ((!p.burst) && (p.sync == 0) && (p.many == 0) && (p.place == 0) && (p.block == 0) && (p.esi == 0) && ((p.data.length : Int) == 0) && (planC p.size p.symbol p.blocks p.long p.short == 0))) := lhd (if_neg hk)
    clear hk
    cases hb0 : (!p.burst) with
    | false =>
      go_wp2
      go_ret
      exact ⟨HR.out false (by rw [HUB.out, HKI.out]; simp only [hb0]; rfl), HB.out⟩
    | true =>
      cases hb1 : (p.sync == 0) with
      | false =>
        go_wp2
        go_ret
        exact ⟨HR.out false (by rw [HUB.out, HKI.out]; simp only [hb0, hb1]; rfl), HB.out⟩
      | true =>
        cases hb2 : (p.many == 0) with
        | false =>
          go_wp2
          go_ret
          exact ⟨HR.out false (by rw [HUB.out, HKI.out]; simp only [hb0, hb1, hb2]; rfl), HB.out⟩
        | true =>
          cases hb3 : (p.place == 0) with
          | false =>
            go_wp2
            go_ret
            exact ⟨HR.out false (by rw [HUB.out, HKI.out]; simp only [hb0, hb1, hb2, hb3]; rfl), HB.out⟩
          | true =>
            cases hb4 : (p.block == 0) with
            | false =>
              go_wp2
              go_ret
              exact ⟨HR.out false (by rw [HUB.out, HKI.out]; simp only [hb0, hb1, hb2, hb3, hb4]; rfl), HB.out⟩
            | true =>
              cases hb5 : (p.esi == 0) with
              | false =>
                go_wp2
                go_ret
                exact ⟨HR.out false (by rw [HUB.out, HKI.out]; simp only [hb0, hb1, hb2, hb3, hb4, hb5]; rfl), HB.out⟩
              | true =>
                cases hb6 : ((p.data.length : Int) == 0) with
                | false =>
                  go_wp2
                  go_ret
                  exact ⟨HR.out false (by rw [HUB.out, HKI.out]; simp only [hb0, hb1, hb2, hb3, hb4, hb5, hb6]; rfl), HB.out⟩
                | true =>
                  go_wp2_with fail
                  refine (HK.out _).mono ?_
                  rintro e w1 ⟨E, rfl, hE, hb⟩
                  have HB1 := lhd (HB.out.trans (hb.mono HB.out.size))
                  rcases hE with ⟨h0, rfl⟩ | ⟨h0, hE⟩
                  · have hc : (planC p.size p.symbol p.blocks p.long p.short == 0) = true := by rw [h0]; rfl
                    clear hb h0
                    go_wp2
                    go_ret
                    exact ⟨HR.out true (by rw [HUB.out, HKI.out]; simp only [hb0, hb1, hb2, hb3, hb4, hb5, hb6, hc]; rfl), HB1.out⟩
                  · obtain ⟨u, v, rfl⟩ := (ErrAns.some (c := nameBkCheck) (w := w1) (.inr ⟨h0, hE⟩) h0)
                    have hc : (planC p.size p.symbol p.blocks p.long p.short == 0) = false := by simp [h0]
                    clear hb h0 hE
                    go_wp2
                    go_ret
                    exact ⟨HR.out false (by rw [HUB.out, HKI.out]; simp only [hb0, hb1, hb2, hb3, hb4, hb5, hb6, hc]; rfl), HB1.out⟩
theorem zF0 {w : World} (p : Pkt) (D : Value) (hD : ListAt byteV w D p.data) (hF : FitsP p) : Calls Tryz.prog 172 #[pktV p D] w fun e w' => e = .returned (.int .i64 (ckN p)) ∧ Below w.heap.size w w' := by
  obtain ⟨W1, hW1, hb1, hx1⟩ := zAz w p D
  have HB := lhd hb1
  have HW := lhd hW1
  have HX := lhd hx1
  have HRG : Hid (∀ V : World, Calls Tryz.prog 201 #[.agg (pktC p D)] V fun e w' => ∃ b : Bool, e = .returned (.bool b) ∧ (b = true ↔ RangedP p) ∧ Below V.heap.size V w') := lhd fun V => zFB p D hF
  have HFM : Hid (∀ V : World, Below w.heap.size w V → Calls Tryz.prog 202 #[.agg (pktC p D)] V fun e w' => e = .returned (.bool (wlFormedB p)) ∧ Below V.heap.size V w') := lhd fun V hV => zEG p D (hD.mono hV) hF
  unfold pktC at HW HRG HFM
  unfold pktV pktC
  clear hW1 hb1 hx1 hD hF
  go_enter Tryz.func172, Tryz.ntmps172
  go_upto_region 1 with fail
  rw [← HW.out]
  go_wp2_with ((with_reducible show wpList _ _ _ (⟨some 3, _, _, _, _, _⟩ :: _) _ _); refine wpList_load_row rfl 63 (.tmp 1) rfl w.heap.size rfl 63 (pktC p D) (0, 0) _ HX.out Tryz.underlying63 rfl (by kernel_rfl) ?_; unfold pktC)
  refine (HRG.out _).mono ?_
  rintro e w2 ⟨b, rfl, hr, hb2⟩
  have HB2 := lhd (HB.out.trans (hb2.mono HB.out.size))
  have HX2 := lhd (HX.out.mono hb2)
  have HR := lhd hr
  clear hb2 hr
  cases b with
  | false =>
    have HN : Hid (ckN p = 1) := lhd (zMt fun h => by have := HR.out.2 h; cases this)
    go_wp2
    go_ret
    exact ⟨by rw [HN.out]; rfl, HB2.out⟩
  | true =>
    have HRP := lhd (HR.out.1 rfl)
    go_wp2_with ((with_reducible show wpList _ _ _ (⟨some 6, _, _, _, _, _⟩ :: _) _ _); refine wpList_load_row rfl 63 (.tmp 1) rfl w.heap.size rfl 63 (pktC p D) (0, 0) _ HX2.out Tryz.underlying63 rfl (by kernel_rfl) ?_; unfold pktC)
    refine (HFM.out _ HB2.out).mono ?_
    rintro e w3 ⟨rfl, hb3⟩
    have HB3 := lhd (HB2.out.trans (hb3.mono HB2.out.size))
    clear hb3
    cases hf : wlFormedB p with
    | false =>
      have HN : Hid (ckN p = 2) := lhd (zMm HRP.out fun h => by have := (zC5 HRP.out).2 h; rw [hf] at this; cases this)
      go_wp2
      go_ret
      exact ⟨by rw [HN.out]; rfl, HB3.out⟩
    | true =>
      have HN : Hid (ckN p = 0) := lhd (ckN_zero.2 ⟨HRP.out, (zC5 HRP.out).1 hf⟩)
      go_wp2
      go_ret
      exact ⟨by rw [HN.out]; rfl, HB3.out⟩
end

section
open Go.RowKit Go.Extern.Stop Go.Stop Go.Extern
theorem zLp : WrCheckC := fun w p D hD hF => by
  obtain ⟨W1, hW1, hb1, hx1⟩ := zAz w p D
  have HB := lhd hb1
  have HW := lhd hW1
  have HX := lhd hx1
  have HWR : Hid (∀ V : World, Below w.heap.size w V → Calls Tryz.prog 172 #[.agg (pktC p D)] V fun e w' => e = .returned (.int .i64 (ckN p)) ∧ Below V.heap.size V w') := lhd fun V hV => zF0 p D (hD.mono hV) hF
  unfold pktC at HW HWR
  unfold pktV pktC
  generalize ckN p = k at *
  clear hW1 hb1 hx1 hD hF
  go_enter Tryz.func138, Tryz.ntmps138
  go_upto_region 1 with fail
  rw [← HW.out]
  go_wp2_with ((with_reducible show wpList _ _ _ (⟨some 3, _, _, _, _, _⟩ :: _) _ _); refine wpList_load_row rfl 63 (.tmp 1) rfl w.heap.size rfl 63 (pktC p D) (0, 0) _ HX.out Tryz.underlying63 rfl (by kernel_rfl) ?_; unfold pktC)
  refine (HWR.out _ HB.out).mono ?_
  rintro e w2 ⟨rfl, hb2⟩
  have HB2 := lhd (HB.out.trans (hb2.mono HB.out.size))
  clear hb2
  go_wp2_with fail
  refine (zAK nameWrCheck k _).mono ?_
  rintro e w3 ⟨E, rfl, hc, hb3⟩
  have HC := lhd hc
  have HB3 := lhd (HB2.out.trans (hb3.mono HB2.out.size))
  clear hc hb3
  go_wp2
  go_ret
  exact ⟨_, rfl, HC.out, HB3.out⟩
end
end Go.Proofs.YtkfimdpcadbcpaaGreatDoor
