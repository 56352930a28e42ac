/- The walk of the fourth layer's law SymbolGoes. -/
import Derived.Test.YtibgddfnkfhlfaaLaw04G
namespace Go.Proofs.Ytibgddfnkfhlfaa
open Go.RowKit Go.Extern.Stop Go.Stop Go.Extern

theorem lit_words (w : World) (x : Nat) : ListAt wordV (w.alloc (.cells #[.int .u64 (x : Int)] 32)) (.slice (some ⟨w.heap.size, 0, none⟩) 1 1) [x] := by
  refine ⟨_, 1, rfl, Nat.le_refl _, by decide, fun _ => ⟨_, 0, rfl, fun j hj => ?_⟩⟩
  have : j = 0 := by simp at hj; omega
  subst this
  rw [Nat.zero_add, World.cell?_alloc_at _ _ _ _ (by simp)]
  rfl

theorem MatAt.takeN {α : Type} {f : α → Value} {w : World} {a : Option Addr} {n cap : Nat} {L : List (List α)} (h : MatAt f w (.slice a n cap) L) (k : Nat) (hk : k ≤ n) : MatAt f w (.slice a k cap) (L.take k) := by
  have hn : n = L.length := by
    obtain ⟨vs, ⟨a', cap', e, -⟩, h4, -⟩ := h
    cases e
    exact h4
  subst hn
  exact h.take k hk

theorem behind_mask {X q : Nat} (h : ∀ c, q ≤ c → X.testBit c = false) : behindB [X] q = false := by
  by_cases hp : 0 < (colsOf [X]).length
  · rw [behindB_last hp]
    apply decide_eq_false
    intro hle
    have hidx : (colsOf [X]).length - 1 < (colsOf [X]).length := by omega
    have hmem : (colsOf [X]).getD ((colsOf [X]).length - 1) 0 ∈ colsOf [X] := by
      rw [List.getD_eq_getElem?_getD, List.getElem?_eq_getElem hidx]; exact List.getElem_mem hidx
    generalize (colsOf [X]).getD ((colsOf [X]).length - 1) 0 = c at *
    have hb := mem_colsOf.1 hmem
    unfold bitW at hb
    by_cases hc : c < 64
    · rw [show c / 64 = 0 by omega, show c % 64 = c by omega] at hb
      have := h c hle
      rw [List.getD_cons_zero, this] at hb
      cases hb
    · rw [List.getD_eq_getElem?_getD, List.getElem?_eq_none (by simp; omega)] at hb
      simp at hb
  · unfold behindB
    exact decide_eq_false (by omega)

theorem Pick_mask {w : World} (vw v : Value) (X : Nat) (M : List (List Nat)) (m : Nat) (hvw : ListAt wordV w vw [X]) (hX : X < 18446744073709551616) (hc : ∀ c, M.length ≤ c → X.testBit c = false) (h : MatAt byteV w v M) (h1 : 1 ≤ m) (h2 : m ≤ 64) (hl : ∀ r ∈ M, r.length = m) (hw : ∀ r ∈ M, Octets r) :
    Calls Try.prog 11 #[vw, v, .int .i64 (m : Int)] w fun e w' => ∃ v', e = .returned (.tuple #[v', .nilIface]) ∧ w'.ownsRow w.heap.size 5 1 v' m ((sumB m (pickTo [X] M M.length)).map byteV) ∧ Below w.heap.size w w' := by
  refine (Pick_ok vw v [X] M m hvw (fun x hx => by rw [List.mem_singleton.1 hx]; exact hX) (by simp) h h1 h2 hl hw).mono ?_
  intro e w' he
  unfold PickSays at he
  rw [behind_mask hc, if_neg (by decide)] at he
  exact he

theorem goes_math (X Y : Nat) (M : List (List Nat)) (m : Nat) : xorW (sumB m (pickTo [X] M M.length)) (sumB m (pickTo [Y] M M.length)) = sumB m (pickTo [X ^^^ Y] M M.length) := by
  have hl : (sumB m (pickTo [X] M M.length)).length = (sumB m (pickTo [Y] M M.length)).length := by rw [sumB_length, sumB_length]
  apply ext_getD (by rw [xorW_length hl, sumB_length, sumB_length])
  intro j hj
  rw [xorW_length hl, sumB_length] at hj
  rw [xorW_getD hl, sumB_getD hj, sumB_getD hj, sumB_getD hj]
  exact (pick_xor (u := [X]) (v := [Y]) rfl M j M.length).symm

theorem mask_lt {x q : Nat} (hq : q ≤ 60) : x &&& (2 ^ q - 1) < 18446744073709551616 ∧ ∀ c, q ≤ c → (x &&& (2 ^ q - 1)).testBit c = false := by
  have h1 : 2 ^ q ≤ 2 ^ 60 := Nat.pow_le_pow_right (by decide) hq
  have h2 : 0 < 2 ^ q := Nat.pow_pos (by decide)
  constructor
  · have := @Nat.and_le_right x (2 ^ q - 1)
    omega
  · intro c hc
    rw [Nat.testBit_and]
    have : (2 ^ q - 1).testBit c = false := by
      rw [Nat.testBit_two_pow_sub_one]
      exact decide_eq_false (by omega)
    rw [this, Bool.and_false]
theorem mask60 (x : Nat) : x &&& 1152921504606846975 < 18446744073709551616 ∧ ∀ c, 60 ≤ c → (x &&& 1152921504606846975).testBit c = false := by
  have h := mask_lt (x := x) (q := 60) (by decide)
  have e : (2 ^ 60 - 1 : Nat) = 1152921504606846975 := by decide
  rw [e] at h
  exact h
theorem xor_mask {X Y q : Nat} (hX : ∀ c, q ≤ c → X.testBit c = false) (hY : ∀ c, q ≤ c → Y.testBit c = false) : ∀ c, q ≤ c → (X ^^^ Y).testBit c = false := by
  intro c hc
  rw [Nat.testBit_xor, hX c hc, hY c hc]; rfl

set_option maxRecDepth 1000000 in
set_option maxHeartbeats 8000000 in
theorem goes4 {w : World} (v : Value) (L : List (List Nat)) (x y : Nat) (h : MatAt byteV w v L) (hw : ∀ r ∈ L, Octets r) (hx : x < 18446744073709551616) (hy : y < 18446744073709551616) :
    Calls Try.prog 4 #[v, .int .u64 (x : Int), .int .u64 (y : Int)] w fun e w' => e = .returned (.bool true) ∧ Below w.heap.size w w' := by
  have HM := Lib.hid h
  have HW := Lib.hid hw
  obtain ⟨a, cap, rfl, -, -, -⟩ := h.opens
  clear h hw
  go_enter Try.func4, Try.ntmps4
  go_wp2_with fail
  refine (cutBytes_any _ L HM.out HW.out).mono ?_
  rintro e w1 ⟨v1, C, rfl, hl1, ho1, hc1, hb1⟩
  have HL1 := Lib.hid hl1
  have HO1 := Lib.hid ho1
  have HB1 := Lib.hid hb1
  have hsz1 := hb1.size
  obtain ⟨ca, cc, rfl, -, -, -⟩ := hl1
  clear ho1 hb1
  go_wp2_with fail
  refine (refSplit_any _ C 3 HL1.out HO1.out (by decide) (by decide) (by omega)).mono ?_
  rintro e w2 ⟨v2, rfl, hm2, hb2⟩
  have HB2 := Lib.hid (HB1.out.trans (hb2.mono hsz1))
  have hsz2 := HB2.out.size
  have HM2 := Lib.hid hm2.at
  have hpl := splitTo_length C 3 (pieces C 3)
  have hps : pieces C 3 ≤ 134 := by unfold pieces; omega
  obtain ⟨sa, sc, rfl, hsc, -, -⟩ := hm2.at.opens
  rw [hpl] at HM2 hsc ⊢
  have HSL := Lib.hid (fun r hr => splitTo_mem (p := C) (m := 3) (k := pieces C 3) r hr)
  have HSO := Lib.hid (fun r hr => splitTo_octets HO1.out 3 (pieces C 3) r hr)
  clear hm2 hb2
  have HPL := Lib.hid hpl
  clear hpl
  generalize splitTo C 3 (pieces C 3) = S at *
  generalize pieces C 3 = p at *
  by_cases h60 : 60 < p
  · have h60I : (60 : Int) < (p : Int) := by omega
    have hscI : (60 : Int) ≤ (sc : Int) := by omega
    obtain ⟨M, hM⟩ : ∃ M, M = S.take 60 := ⟨_, rfl⟩
    have hMn : M.length = 60 := by rw [hM, List.length_take, HPL.out]; omega
    have HMM : Hid (MatAt byteV w2 (.slice sa 60 sc) M) := Lib.hid (by rw [hM]; exact HM2.out.takeN 60 (by omega))
    have HML : Hid (∀ r ∈ M, r.length = 3) := Lib.hid fun r hr => HSL.out r (by rw [hM] at hr; exact List.mem_of_mem_take hr)
    have HMO : Hid (∀ r ∈ M, Octets r) := Lib.hid fun r hr => HSO.out r (by rw [hM] at hr; exact List.mem_of_mem_take hr)
    clear hM
    obtain ⟨X, hXe⟩ : ∃ X, x &&& 1152921504606846975 = X := ⟨_, rfl⟩
    obtain ⟨Y, hYe⟩ : ∃ Y, y &&& 1152921504606846975 = Y := ⟨_, rfl⟩
    have hXm := mask60 x
    have hYm := mask60 y
    rw [hXe] at hXm
    rw [hYe] at hYm
    have hxy := bits_xor_u64_nat X Y hXm.1 hYm.1
    have hax : bits BinOp.and IntKind.u64 (x : Int) 1152921504606846975 = (X : Int) := by rw [← hXe]; exact bits_and_u64_nat x 1152921504606846975 hx (by decide)
    have hay : bits BinOp.and IntKind.u64 (y : Int) 1152921504606846975 = (Y : Int) := by rw [← hYe]; exact bits_and_u64_nat y 1152921504606846975 hy (by decide)
    rw [← hMn] at hXm hYm
    have HX := Lib.hid hXm
    have HY := Lib.hid hYm
    have HXY : Hid (X ^^^ Y < 18446744073709551616 ∧ ∀ c, M.length ≤ c → (X ^^^ Y).testBit c = false) := Lib.hid ⟨Nat.xor_lt_two_pow (n := 64) hXm.1 hYm.1, xor_mask hXm.2 hYm.2⟩
    have HPO : Hid (∀ r ∈ pickTo [X] M M.length, Octets r) := Lib.hid fun r hr => HMO.out r (pickTo_mem (Nat.le_refl _) r hr)
    have HQO : Hid (∀ r ∈ pickTo [Y] M M.length, Octets r) := Lib.hid fun r hr => HMO.out r (pickTo_mem (Nat.le_refl _) r hr)
    have HV1 := Lib.hid (lit_words w2 X)
    have HBL := Lib.hid ((Below.refl w2.heap.size w2).alloc (Nat.le_refl _) (.cells #[.int .u64 (X : Int)] 32))
    have HM0 := Lib.hid (HMM.out.mono HBL.out)
    have HB0 := Lib.hid (HB2.out.trans (HBL.out.mono hsz2))
    have hsz0 := HB0.out.size
    clear hXm hYm hXe hYe
    go_wp2_with fail
    refine (Pick_mask _ _ X M 3 HV1.out HX.out.1 HX.out.2 HM0.out (by decide) (by decide) HML.out HMO.out).mono ?_
    rintro e w3 ⟨vx, rfl, hox, hb3⟩
    have HB3 := Lib.hid (HB0.out.trans (hb3.mono hsz0))
    have hsz3 := HB3.out.size
    have HLX := Lib.hid (ListAt.of_owns hox)
    have HM3 := Lib.hid (HM0.out.mono hb3)
    obtain ⟨ox, cx, rfl, -, -⟩ := own_open hox
    have HB3' := Lib.hid ((Below.refl w3.heap.size w3).alloc (Nat.le_refl _) (.cells #[.int .u64 (Y : Int)] 32))
    have HV2 := Lib.hid (lit_words w3 Y)
    have HM3' := Lib.hid (HM3.out.mono HB3'.out)
    clear hox hb3
    go_wp2_with fail
    refine (Pick_mask _ _ Y M 3 HV2.out HY.out.1 HY.out.2 HM3'.out (by decide) (by decide) HML.out HMO.out).mono ?_
    rintro e w4 ⟨vy, rfl, hoy, hb4⟩
    have HB34 := Lib.hid (HB3'.out.trans (hb4.mono HB3'.out.size))
    have HB4 := Lib.hid (HB3.out.trans (HB34.out.mono hsz3))
    have hsz4 := HB4.out.size
    have HLY := Lib.hid (ListAt.of_owns hoy)
    have HLX4 := Lib.hid (HLX.out.mono HB34.out)
    have HM4 := Lib.hid (HM3.out.mono HB34.out)
    obtain ⟨oy, cy, rfl, -, -⟩ := own_open hoy
    have HB4' := Lib.hid ((Below.refl w4.heap.size w4).alloc (Nat.le_refl _) (.cells #[.int .u64 ((X ^^^ Y : Nat) : Int)] 32))
    have HV3 := Lib.hid (lit_words w4 (X ^^^ Y))
    have HM4' := Lib.hid (HM4.out.mono HB4'.out)
    clear hoy hb4
    go_wp2_with fail
    refine (Pick_mask _ _ (X ^^^ Y) M 3 HV3.out HXY.out.1 HXY.out.2 HM4'.out (by decide) (by decide) HML.out HMO.out).mono ?_
    rintro e w5 ⟨vz, rfl, hoz, hb5⟩
    have HB45 := Lib.hid (HB4'.out.trans (hb5.mono HB4'.out.size))
    have HB5 := Lib.hid (HB4.out.trans (HB45.out.mono hsz4))
    have hsz5 := HB5.out.size
    have HLZ := Lib.hid (ListAt.of_owns hoz)
    have HLX5 := Lib.hid (HLX4.out.mono HB45.out)
    have HLY5 := Lib.hid (HLY.out.mono HB45.out)
    obtain ⟨oz, cz, rfl, -, -⟩ := own_open hoz
    clear hoz hb5
    go_wp2_with fail
    refine (SXor_ok _ _ _ _ 3 HLX5.out HLY5.out (sumB_octets HPO.out 3) (sumB_octets HQO.out 3) (sumB_length _ _) (sumB_length _ _) (by decide)).mono ?_
    rintro e w6 ⟨vs, rfl, hos, hb6⟩
    rw [goes_math] at hos
    have HB6 := Lib.hid (HB5.out.trans (hb6.mono hsz5))
    have hks := (ListAt.of_owns hos).str
    have hkz := (HLZ.out.mono hb6).str
    obtain ⟨os, cs, rfl, -, -⟩ := own_open hos
    clear hos hb6
    generalize strN (sumB 3 (pickTo [X ^^^ Y] M M.length)) = str at *
    go_wp2_with fail
    refine (awake4 _).mono ?_
    rintro e wz ⟨rfl, hbz⟩
    have HBZ := Lib.hid (HB6.out.trans (hbz.mono HB6.out.size))
    clear hbz
    go_wp2
    go_ret
    exact ⟨rfl, HBZ.out⟩
  · have h60I : (p : Int) ≤ 60 := by omega
    obtain ⟨M, hM⟩ : ∃ M, M = S := ⟨_, rfl⟩
    have hMn : M.length = p := by rw [hM, HPL.out]
    have HMM : Hid (MatAt byteV w2 (.slice sa p sc) M) := Lib.hid (by rw [hM]; exact HM2.out)
    have HML : Hid (∀ r ∈ M, r.length = 3) := Lib.hid fun r hr => HSL.out r (by rw [hM] at hr; exact hr)
    have HMO : Hid (∀ r ∈ M, Octets r) := Lib.hid fun r hr => HSO.out r (by rw [hM] at hr; exact hr)
    clear hM
    obtain ⟨X, hXe⟩ : ∃ X, x &&& (2 ^ p - 1) = X := ⟨_, rfl⟩
    obtain ⟨Y, hYe⟩ : ∃ Y, y &&& (2 ^ p - 1) = Y := ⟨_, rfl⟩
    have hXm := mask_lt (x := x) (q := p) (by omega)
    have hYm := mask_lt (x := y) (q := p) (by omega)
    rw [hXe] at hXm
    rw [hYe] at hYm
    have hxy := bits_xor_u64_nat X Y hXm.1 hYm.1
    have hp60 : 2 ^ p ≤ 2 ^ 60 := Nat.pow_le_pow_right (by decide) (by omega)
    have hp0 : 0 < 2 ^ p := Nat.pow_pos (by decide)
    have hA : IntKind.u64.wrap (IntKind.u64.wrap (2 ^ p) - 1) = ((2 ^ p - 1 : Nat) : Int) := by
      have e : ((2 : Int) ^ p) = ((2 ^ p : Nat) : Int) := by simp
      rw [e, IntKind.wrap_u64, IntKind.wrap_u64]
      omega
    have hax : bits BinOp.and IntKind.u64 (x : Int) ((2 ^ p - 1 : Nat) : Int) = (X : Int) := by rw [← hXe]; exact bits_and_u64_nat x (2 ^ p - 1) hx (by omega)
    have hay : bits BinOp.and IntKind.u64 (y : Int) ((2 ^ p - 1 : Nat) : Int) = (Y : Int) := by rw [← hYe]; exact bits_and_u64_nat y (2 ^ p - 1) hy (by omega)
    clear hp60 hp0
    rw [← hMn] at hXm hYm
    have HX := Lib.hid hXm
    have HY := Lib.hid hYm
    have HXY : Hid (X ^^^ Y < 18446744073709551616 ∧ ∀ c, M.length ≤ c → (X ^^^ Y).testBit c = false) := Lib.hid ⟨Nat.xor_lt_two_pow (n := 64) hXm.1 hYm.1, xor_mask hXm.2 hYm.2⟩
    have HPO : Hid (∀ r ∈ pickTo [X] M M.length, Octets r) := Lib.hid fun r hr => HMO.out r (pickTo_mem (Nat.le_refl _) r hr)
    have HQO : Hid (∀ r ∈ pickTo [Y] M M.length, Octets r) := Lib.hid fun r hr => HMO.out r (pickTo_mem (Nat.le_refl _) r hr)
    have HV1 := Lib.hid (lit_words w2 X)
    have HBL := Lib.hid ((Below.refl w2.heap.size w2).alloc (Nat.le_refl _) (.cells #[.int .u64 (X : Int)] 32))
    have HM0 := Lib.hid (HMM.out.mono HBL.out)
    have HB0 := Lib.hid (HB2.out.trans (HBL.out.mono hsz2))
    have hsz0 := HB0.out.size
    clear hXm hYm hXe hYe
    generalize 2 ^ p - 1 = A at *
    go_wp2_with fail
    refine (Pick_mask _ _ X M 3 HV1.out HX.out.1 HX.out.2 HM0.out (by decide) (by decide) HML.out HMO.out).mono ?_
    rintro e w3 ⟨vx, rfl, hox, hb3⟩
    have HB3 := Lib.hid (HB0.out.trans (hb3.mono hsz0))
    have hsz3 := HB3.out.size
    have HLX := Lib.hid (ListAt.of_owns hox)
    have HM3 := Lib.hid (HM0.out.mono hb3)
    obtain ⟨ox, cx, rfl, -, -⟩ := own_open hox
    have HB3' := Lib.hid ((Below.refl w3.heap.size w3).alloc (Nat.le_refl _) (.cells #[.int .u64 (Y : Int)] 32))
    have HV2 := Lib.hid (lit_words w3 Y)
    have HM3' := Lib.hid (HM3.out.mono HB3'.out)
    clear hox hb3
    go_wp2_with fail
    refine (Pick_mask _ _ Y M 3 HV2.out HY.out.1 HY.out.2 HM3'.out (by decide) (by decide) HML.out HMO.out).mono ?_
    rintro e w4 ⟨vy, rfl, hoy, hb4⟩
    have HB34 := Lib.hid (HB3'.out.trans (hb4.mono HB3'.out.size))
    have HB4 := Lib.hid (HB3.out.trans (HB34.out.mono hsz3))
    have hsz4 := HB4.out.size
    have HLY := Lib.hid (ListAt.of_owns hoy)
    have HLX4 := Lib.hid (HLX.out.mono HB34.out)
    have HM4 := Lib.hid (HM3.out.mono HB34.out)
    obtain ⟨oy, cy, rfl, -, -⟩ := own_open hoy
    have HB4' := Lib.hid ((Below.refl w4.heap.size w4).alloc (Nat.le_refl _) (.cells #[.int .u64 ((X ^^^ Y : Nat) : Int)] 32))
    have HV3 := Lib.hid (lit_words w4 (X ^^^ Y))
    have HM4' := Lib.hid (HM4.out.mono HB4'.out)
    clear hoy hb4
    go_wp2_with fail
    refine (Pick_mask _ _ (X ^^^ Y) M 3 HV3.out HXY.out.1 HXY.out.2 HM4'.out (by decide) (by decide) HML.out HMO.out).mono ?_
    rintro e w5 ⟨vz, rfl, hoz, hb5⟩
    have HB45 := Lib.hid (HB4'.out.trans (hb5.mono HB4'.out.size))
    have HB5 := Lib.hid (HB4.out.trans (HB45.out.mono hsz4))
    have hsz5 := HB5.out.size
    have HLZ := Lib.hid (ListAt.of_owns hoz)
    have HLX5 := Lib.hid (HLX4.out.mono HB45.out)
    have HLY5 := Lib.hid (HLY.out.mono HB45.out)
    obtain ⟨oz, cz, rfl, -, -⟩ := own_open hoz
    clear hoz hb5
    go_wp2_with fail
    refine (SXor_ok _ _ _ _ 3 HLX5.out HLY5.out (sumB_octets HPO.out 3) (sumB_octets HQO.out 3) (sumB_length _ _) (sumB_length _ _) (by decide)).mono ?_
    rintro e w6 ⟨vs, rfl, hos, hb6⟩
    rw [goes_math] at hos
    have HB6 := Lib.hid (HB5.out.trans (hb6.mono hsz5))
    have hks := (ListAt.of_owns hos).str
    have hkz := (HLZ.out.mono hb6).str
    obtain ⟨os, cs, rfl, -, -⟩ := own_open hos
    clear hos hb6
    generalize strN (sumB 3 (pickTo [X ^^^ Y] M M.length)) = str at *
    go_wp2_with fail
    refine (awake4 _).mono ?_
    rintro e wz ⟨rfl, hbz⟩
    have HBZ := Lib.hid (HB6.out.trans (hbz.mono HB6.out.size))
    clear hbz
    go_wp2
    go_ret
    exact ⟨rfl, HBZ.out⟩
end Go.Proofs.Ytibgddfnkfhlfaa
