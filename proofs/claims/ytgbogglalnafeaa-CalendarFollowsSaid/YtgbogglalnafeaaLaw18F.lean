/- The eighteenth layer's law CalendarFollows (plain seat). (Made by gen18f.py.) -/
import Derived.Test.YtgbogglalnafeaaLaw18
import Derived.BigQuiet
import Derived.Deep.Cut
namespace Go.Proofs.Ytgbogglalnafeaa
open Go.RowKit Go.Extern.Stop Go.Stop Go.Extern

/-- a row: one step, or two that follow one another -/
theorem rowZ_ways (b u t : Nat) : (∃ x, x < 4294967296 ∧ rowZ b u t = [x]) ∨ (∃ x y, x < 4294967296 ∧ y < 4294967296 ∧ (x + 1) % 4294967296 = y ∧ rowZ b u t = [x, y]) := by
  unfold rowZ
  split
  · exact .inr ⟨_, _, Nat.mod_lt _ (by decide), Nat.mod_lt _ (by decide), by omega, rfl⟩
  · exact .inl ⟨_, Nat.mod_lt _ (by decide), rfl⟩

set_option linter.unusedSimpArgs false in
set_option linter.unusedVariables false in
set_option maxRecDepth 1000000 in
set_option maxHeartbeats 8000000 in
theorem follows18 (hR : CaRowC) (hS : CaSyncC) {w : World} (b u t : Int) (ib : I64 b) (iu : I64 u) (it : I64 t) :
    Calls Try.prog 3 #[.int .i64 b, .int .i64 u, .int .i64 t] w fun e w' => e = .returned (.bool true) ∧ Below w.heap.size w w' := by
  have HRC := Lib.hid (hR w b u t ib iu it)
  have HR2 := Lib.hid fun (V : World) (h : I64 (t + 1)) => hR V b u (t + 1) ib iu h
  have HAW : Hid (∀ V : World, Calls Try.prog 7 #[] V fun e w' => e = .returned (.bool true) ∧ Below V.heap.size V w') := Lib.hid fun V => awake18 hR hS
  have w00 : IntKind.i64.wrap 0 = 0 := rfl
  have w11 : IntKind.i64.wrap 1 = 1 := rfl
  clear hR hS ib iu it
  go_enter Try.func3, Try.ntmps3
  go_wp2_with fail
  refine HRC.out.mono ?_
  rintro e w1 ⟨hb1, ⟨hno, E, rfl, hE⟩ | ⟨hok, v1, rfl, ho1⟩⟩
  · have HB1 := Lib.hid hb1
    obtain ⟨i, x, rfl⟩ := hE.some (by decide)
    clear hb1 hE hno
    go_wp2_with fail
    refine (HAW.out _).mono ?_
    rintro e w9 ⟨rfl, hb9⟩
    have HB9 := Lib.hid (HB1.out.trans (hb9.mono HB1.out.size))
    clear hb9
    go_wp2
    go_ret
    exact ⟨rfl, HB9.out⟩
  · have HB1 := Lib.hid hb1
    by_cases c1 : 1099511627775 ≤ t
    · have d1 : decide (1099511627775 ≤ t) = true := decide_eq_true c1
      clear hb1 ho1 hok c1
      go_wp2_with fail
      refine (HAW.out _).mono ?_
      rintro e w9 ⟨rfl, hb9⟩
      have HB9 := Lib.hid (HB1.out.trans (hb9.mono HB1.out.size))
      clear hb9
      go_wp2
      go_ret
      exact ⟨rfl, HB9.out⟩
    · have d1 : decide (1099511627775 ≤ t) = false := decide_eq_false c1
      obtain ⟨B, U, T, rfl, rfl, rfl, h1, h2, h3, h4, h5⟩ := hok.nat
      have hw : IntKind.i64.wrap ((T : Int) + 1) = (T : Int) + 1 := IntWalk.i64_in _ (by omega)
      have HR3 := Lib.hid fun V => HR2.out V ⟨by omega, by omega⟩
      have hok2 : CaOk (B : Int) (U : Int) ((T : Int) + 1) := ⟨by omega, by omega, by omega, by omega, by omega, by omega⟩
      have htn : ((T : Int) + 1).toNat = T + 1 := by omega
      have hfo := row_follows (b := B) (u := U) (t := T) h1 h3 h4
      simp only [Int.toNat_natCast] at ho1
      have hlen2 : 0 < (rowZ B U (T + 1)).length := by rcases rowZ_ways B U (T + 1) with ⟨x, -, e⟩ | ⟨x, y, -, -, -, e⟩ <;> rw [e] <;> simp
      obtain ⟨z, hz⟩ : ∃ z, z = (rowZ B U (T + 1)).headD 0 := ⟨_, rfl⟩
      have hzb : z < 4294967296 := by rw [hz]; rcases rowZ_ways B U (T + 1) with ⟨x, h, e⟩ | ⟨x, y, h, -, -, e⟩ <;> rw [e] <;> exact h
      have hzx : (rowZ B U (T + 1))[0]? = some z := by rw [hz]; rcases rowZ_ways B U (T + 1) with ⟨x, -, e⟩ | ⟨x, y, -, -, -, e⟩ <;> rw [e] <;> rfl
      rw [← hz] at hfo
      have HOK := Lib.hid hok2
      have tb : T < 1099511627775 := by omega
      clear hb1 c1 hok HRC HR2
      go_wp2_with fail
      refine (HR3.out _).mono ?_
      rintro e w2 ⟨hb2, ⟨h, -⟩ | ⟨-, v2, rfl, ho2⟩⟩
      · exact absurd HOK.out h
      · have HB2 := Lib.hid (HB1.out.trans (hb2.mono HB1.out.size))
        rw [htn, Int.toNat_natCast, Int.toNat_natCast] at ho2
        have ho12 := owns_kept ho1 hb2
        obtain ⟨a2, c2, hv2, -, hg2⟩ := own_open ho2
        obtain ⟨g2, rfl⟩ := hg2 hlen2
        subst hv2
        have HZ : Hid (∀ V, Below w2.heap.size w2 V → V.cell? ⟨g2, 0, none⟩ = some (.int .u32 (z : Int))) := Lib.hid fun V hV => by
          rw [(owns_kept ho2 hV).cellAt 0 (by omega), List.getElem?_map, hzx]
          rfl
        generalize hq : (rowZ B U (T + 1)).length = q at *
        have dq : decide ((0 : Int) < (q : Int)) = true := decide_eq_true (by omega)
        have dz : ((z : Int) == (z : Int)) = true := by simp
        rcases rowZ_ways B U T with ⟨x, hx, e⟩ | ⟨x, y, hx, hy, hxy, e⟩
        · rw [e] at ho12 ho1 hfo
          have hxz : IntKind.u32.wrap ((x : Int) + 1) = (z : Int) := by
            have hfo' : (x + 1) % 4294967296 = z := hfo
            rw [IntKind.wrap_u32]; omega
          have hxz2 : ((x : Int) + 1) % 4294967296 = (z : Int) := by rw [← hxz, IntKind.wrap_u32]
          have ho13 : w2.ownsRow w.heap.size 28 1 v1 1 [.int .u32 (x : Int)] := ho12
          obtain ⟨a1, c1, hv1, -, hg1⟩ := own_open ho13
          obtain ⟨g1, rfl⟩ := hg1 (by decide)
          subst hv1
          have HX : Hid (∀ V, Below w2.heap.size w2 V → V.cell? ⟨g1, 0, none⟩ = some (.int .u32 (x : Int))) := Lib.hid fun V hV => by
            rw [(owns_kept ho13 hV).cellAt 0 (by omega)]
            rfl
          clear ho1 ho12 ho13 ho2 hb2 hg1 hg2 e hfo hzx hq hz htn hok2
          go_upto_region 5 with fail
          have HBD : Below w2.heap.size w2 w2.drew := (Below.refl _ _).drew
          refine wp_region_quiet (C := fun V => Below w2.heap.size w2 V) (by kernel_rfl) (by kernel_rfl) HBD ?_
          dsimp only
          repeat (first | go_big_quiet_step (fail) | (refine wpQuiet_step (fun K hK => ?_); go_simp; refine ⟨_, fun _ _ => rfl, hK _ ?_⟩; clear hK K))
          refine BigFrame.wpQuiet_want rfl (fun K hK => ⟨.int .u32 (x : Int), fun V hV => ?_, hK _ ?_⟩)
          · have p := HX.out V hV
            go_simp
          clear hK K
          repeat (first | go_big_quiet_step (fail) | (refine wpQuiet_step (fun K hK => ?_); go_simp; refine ⟨_, fun _ _ => rfl, hK _ ?_⟩; clear hK K))
          refine BigFrame.wpQuiet_want rfl (fun K hK => ⟨.int .u32 (z : Int), fun V hV => ?_, hK _ ?_⟩)
          · have p := HZ.out V hV
            go_simp
          clear hK K
          repeat (first | go_big_quiet_step (fail) | (refine wpQuiet_step (fun K hK => ?_); go_simp; refine ⟨_, fun _ _ => rfl, hK _ ?_⟩; clear hK K))
          refine BigFrame.wpQuiet_want rfl (fun K hK => ⟨.bool true, fun V hV => ?_, hK _ ?_⟩)
          · go_simp
            refine (HAW.out V).mono ?_
            rintro e w' ⟨rfl, hb⟩
            exact ⟨rfl, hV.trans (hb.mono hV.size)⟩
          clear hK K
          repeat (first | go_big_quiet_step (fail) | (refine wpQuiet_step (fun K hK => ?_); go_simp; refine ⟨_, fun _ _ => rfl, hK _ ?_⟩; clear hK K))
          refine wpQuiet_nil ?_
          intro w3 hb3
          have HB3 := Lib.hid (HB2.out.trans (Below.mono hb3 HB2.out.size))
          clear hb3
          go_wp2
          go_ret
          exact ⟨rfl, HB3.out⟩
        · rw [e] at ho12 ho1 hfo
          have hyz : IntKind.u32.wrap ((y : Int) + 1) = (z : Int) := by
            have hfo' : (y + 1) % 4294967296 = z := hfo
            rw [IntKind.wrap_u32]; omega
          have hyz2 : ((y : Int) + 1) % 4294967296 = (z : Int) := by rw [← hyz, IntKind.wrap_u32]
          have hxyw : IntKind.u32.wrap ((x : Int) + 1) = (y : Int) := by rw [IntKind.wrap_u32]; omega
          have hxyw2 : ((x : Int) + 1) % 4294967296 = (y : Int) := by omega
          have dy : ((y : Int) == (y : Int)) = true := by simp
          have ho13 : w2.ownsRow w.heap.size 28 1 v1 2 [.int .u32 (x : Int), .int .u32 (y : Int)] := ho12
          obtain ⟨a1, c1, hv1, -, hg1⟩ := own_open ho13
          obtain ⟨g1, rfl⟩ := hg1 (by decide)
          subst hv1
          have HX : Hid (∀ V, Below w2.heap.size w2 V → V.cell? ⟨g1, 0, none⟩ = some (.int .u32 (x : Int))) := Lib.hid fun V hV => by
            rw [(owns_kept ho13 hV).cellAt 0 (by omega)]
            rfl
          have HY : Hid (∀ V, Below w2.heap.size w2 V → V.cell? ⟨g1, 1, none⟩ = some (.int .u32 (y : Int))) := Lib.hid fun V hV => by
            rw [(owns_kept ho13 hV).cellAt 1 (by omega)]
            rfl
          clear ho1 ho12 ho13 ho2 hb2 hg1 hg2 e hfo hzx hq hz htn hok2 hxy
          go_upto_region 5 with fail
          have HBD : Below w2.heap.size w2 w2.drew := (Below.refl _ _).drew
          refine wp_region_quiet (C := fun V => Below w2.heap.size w2 V) (by kernel_rfl) (by kernel_rfl) HBD ?_
          dsimp only
          repeat (first | go_big_quiet_step (fail) | (refine wpQuiet_step (fun K hK => ?_); go_simp; refine ⟨_, fun _ _ => rfl, hK _ ?_⟩; clear hK K))
          refine BigFrame.wpQuiet_want rfl (fun K hK => ⟨.int .u32 (y : Int), fun V hV => ?_, hK _ ?_⟩)
          · have p := HY.out V hV
            go_simp
          clear hK K
          repeat (first | go_big_quiet_step (fail) | (refine wpQuiet_step (fun K hK => ?_); go_simp; refine ⟨_, fun _ _ => rfl, hK _ ?_⟩; clear hK K))
          refine BigFrame.wpQuiet_want rfl (fun K hK => ⟨.int .u32 (z : Int), fun V hV => ?_, hK _ ?_⟩)
          · have p := HZ.out V hV
            go_simp
          clear hK K
          repeat (first | go_big_quiet_step (fail) | (refine wpQuiet_step (fun K hK => ?_); go_simp; refine ⟨_, fun _ _ => rfl, hK _ ?_⟩; clear hK K))
          refine BigFrame.wpQuiet_want rfl (fun K hK => ⟨.int .u32 (x : Int), fun V hV => ?_, hK _ ?_⟩)
          · have p := HX.out V hV
            go_simp
          clear hK K
          repeat (first | go_big_quiet_step (fail) | (refine wpQuiet_step (fun K hK => ?_); go_simp; refine ⟨_, fun _ _ => rfl, hK _ ?_⟩; clear hK K))
          refine BigFrame.wpQuiet_want rfl (fun K hK => ⟨.int .u32 (y : Int), fun V hV => ?_, hK _ ?_⟩)
          · have p := HY.out V hV
            go_simp
          clear hK K
          repeat (first | go_big_quiet_step (fail) | (refine wpQuiet_step (fun K hK => ?_); go_simp; refine ⟨_, fun _ _ => rfl, hK _ ?_⟩; clear hK K))
          refine BigFrame.wpQuiet_want rfl (fun K hK => ⟨.bool true, fun V hV => ?_, hK _ ?_⟩)
          · go_simp
            refine (HAW.out V).mono ?_
            rintro e w' ⟨rfl, hb⟩
            exact ⟨rfl, hV.trans (hb.mono hV.size)⟩
          clear hK K
          repeat (first | go_big_quiet_step (fail) | (refine wpQuiet_step (fun K hK => ?_); go_simp; refine ⟨_, fun _ _ => rfl, hK _ ?_⟩; clear hK K))
          refine wpQuiet_nil ?_
          intro w3 hb3
          have HB3 := Lib.hid (HB2.out.trans (Below.mono hb3 HB2.out.size))
          clear hb3
          go_wp2
          go_ret
          exact ⟨rfl, HB3.out⟩
end Go.Proofs.Ytgbogglalnafeaa
