/- The walks of the second layer's laws PackedOdd, PackedTwice, PackedUnpacks. -/
import Derived.Test.YtdmgcnmapglhiaaDoorLaw02
namespace Go.Proofs.YtdmgcnmapglhiaaDoor
open Go.RowKit Go.Extern.Stop Go.Stop Go.Extern

theorem Word.take {ws : List Nat} (h : Word ws) (n : Nat) : Word (ws.take n) := fun x hx => h x (List.mem_of_mem_take hx)
theorem take20 (ws : List Nat) : (ws.take 20).length ≤ 20 := by rw [List.length_take]; omega
theorem eqBool (p : Bool) (w : World) : (binOp .eql 4 (.bool p) (.bool p)).run Tryd.prog w = .ok (.bool true) w := by cases p <;> kernel_rfl

set_option maxRecDepth 1000000 in
set_option maxHeartbeats 4000000 in
theorem odd2 {w : World} (v1 v2 v3 : Value) (x1 x2 x3 : List Nat) (h1 : ListAt wordV w v1 x1) (h2 : ListAt wordV w v2 x2) (h3 : ListAt wordV w v3 x3) (hw1 : Word x1) (hw2 : Word x2) (hw3 : Word x3) (hT : Tab w) :
    Calls Tryd.prog 8 #[v1, v2, v3] w fun e w' => e = .returned (.bool true) ∧ Below w.heap.size w w' := by
  have HT := Lib.hid hT
  have HA1 := Lib.hid h1
  have HA2 := Lib.hid h2
  have HA3 := Lib.hid h3
  clear hT h1 h2 h3
  go_enter Tryd.func8, Tryd.ntmps8
  go_wp2_with fail
  refine (cutW_any v1 x1 HA1.out).mono ?_
  rintro e w1 ⟨u1, rfl, hu1, rfl⟩
  have HY1 := Lib.hid hu1
  have HW1 := Lib.hid (hw1.take 20)
  have hl1 := take20 x1
  clear hu1 hw1 HA1
  generalize x1.take 20 = y1 at *
  go_wp2_with fail
  refine (cutW_any v2 x2 HA2.out).mono ?_
  rintro e w1 ⟨u2, rfl, hu2, rfl⟩
  have HY2 := Lib.hid hu2
  have HW2 := Lib.hid (hw2.take 20)
  have hl2 := take20 x2
  clear hu2 hw2 HA2
  generalize x2.take 20 = y2 at *
  go_wp2_with fail
  refine (cutW_any v3 x3 HA3.out).mono ?_
  rintro e w1 ⟨u3, rfl, hu3, rfl⟩
  have HY3 := Lib.hid hu3
  have HW3 := Lib.hid (hw3.take 20)
  have hl3 := take20 x3
  clear hu3 hw3 HA3
  generalize x3.take 20 = y3 at *
  by_cases h12 : y1.length = y2.length
  rotate_left
  · have hb : ((y1.length : Int) == (y2.length : Int)) = false := by simp; omega
    have hb2 : ((y1.length : Int) != (y2.length : Int)) = true := by simp; omega
    have HY1' := HY1.out
    have HY2' := HY2.out
    have HY3' := HY3.out
    obtain ⟨a1, c1, rfl, -, -, -⟩ := HY1'
    obtain ⟨a2, c2, rfl, -, -, -⟩ := HY2'
    obtain ⟨a3, c3, rfl, -, -, -⟩ := HY3'
    go_wp2_with fail
    refine (awake2 (HT.out)).mono ?_
    rintro e wz ⟨rfl, hbz⟩
    have HBZ := Lib.hid (hbz)
    clear hbz
    go_wp2
    go_ret
    exact ⟨rfl, HBZ.out⟩
  by_cases h23 : y2.length = y3.length
  rotate_left
  · have hb : ((y2.length : Int) == (y3.length : Int)) = false := by simp; omega
    have hb2 : ((y2.length : Int) != (y3.length : Int)) = true := by simp; omega
    have HY1' := HY1.out
    have HY2' := HY2.out
    have HY3' := HY3.out
    obtain ⟨a1, c1, rfl, -, -, -⟩ := HY1'
    obtain ⟨a2, c2, rfl, -, -, -⟩ := HY2'
    obtain ⟨a3, c3, rfl, -, -, -⟩ := HY3'
    rw [h12]
    go_wp2_with fail
    refine (awake2 (HT.out)).mono ?_
    rintro e wz ⟨rfl, hbz⟩
    have HBZ := Lib.hid (hbz)
    clear hbz
    go_wp2
    go_ret
    exact ⟨rfl, HBZ.out⟩
  obtain ⟨n, hn⟩ : ∃ n, y1.length = n := ⟨_, rfl⟩
  have HE12 := Lib.hid h12
  have HE23 := Lib.hid h23
  have HN := Lib.hid hn
  have HX12 := Lib.hid (xorW_length h12)
  have HX23 := Lib.hid (xorW_length h23)
  have HY1' := HY1.out
  have HY2' := HY2.out
  have HY3' := HY3.out
  obtain ⟨a1, c1, rfl, -, -, -⟩ := HY1'.words n hn
  obtain ⟨a2, c2, rfl, -, -, -⟩ := HY2'.words n (by omega)
  obtain ⟨a3, c3, rfl, -, -, -⟩ := HY3'.words n (by omega)
  clear HY1' HY2' HY3' h12 h23 hn
  go_wp2_with fail
  refine (Xor_like _ _ y1 y2 (HY1.out) (HY2.out) HW1.out HW2.out (HE12.out) (by omega)).mono ?_
  rintro e q1 ⟨z1, m1, rfl, hz1, hb1⟩
  have HL1 := Lib.hid (ListAt.of_owns (f := wordV) hz1)
  have HV1 := Lib.hid (HW1.out.xor HW2.out)
  have HB1 := Lib.hid (hb1)
  have HD1 := Lib.hid hb1
  clear hz1 hb1
  go_wp2_with fail
  refine (Odd_like _ _ (xorW y1 y2) y3 (HL1.out) (HY3.out.mono HB1.out) HV1.out HW3.out (by rw [HX12.out]; exact HE12.out.trans HE23.out) (by rw [HX12.out]; omega)).mono ?_
  rintro e q2 ⟨rfl, hb2⟩
  have HB2 := Lib.hid (HB1.out.trans (hb2.mono HB1.out.size))
  have HD2 := Lib.hid hb2
  clear hb2
  go_wp2_with fail
  refine (Odd_like _ _ y1 y3 (HY1.out.mono HB2.out) (HY3.out.mono HB2.out) HW1.out HW3.out (HE12.out.trans HE23.out) (by omega)).mono ?_
  rintro e q3 ⟨rfl, hb3⟩
  have HB3 := Lib.hid (HB2.out.trans (hb3.mono HB2.out.size))
  have HD3 := Lib.hid hb3
  clear hb3
  go_wp2_with fail
  refine (Odd_like _ _ y2 y3 (HY2.out.mono HB3.out) (HY3.out.mono HB3.out) HW2.out HW3.out (HE23.out) (by omega)).mono ?_
  rintro e q4 ⟨rfl, hb4⟩
  have HB4 := Lib.hid (HB3.out.trans (hb4.mono HB3.out.size))
  have HD4 := Lib.hid hb4
  clear hb4
  rw [oddW_xor HE12.out HE23.out]
  have hne := neqBool (oddW y1 y3) (oddW y2 y3) _ rfl
  have heq := eqBool (oddW y1 y3 != oddW y2 y3)
  generalize (oddW y1 y3 != oddW y2 y3) = r at *
  generalize oddW y1 y3 = p at *
  generalize oddW y2 y3 = q at *
  go_wp2_with fail
  refine (awake2 (HT.out.mono HB4.out)).mono ?_
  rintro e wz ⟨rfl, hbz⟩
  have HBZ := Lib.hid (HB4.out.trans (hbz.mono HB4.out.size))
  clear hbz
  go_wp2
  go_ret
  exact ⟨rfl, HBZ.out⟩

set_option maxRecDepth 1000000 in
set_option maxHeartbeats 4000000 in
theorem twice2 {w : World} (v1 v2 v3 : Value) (x1 x2 x3 : List Nat) (h1 : ListAt wordV w v1 x1) (h2 : ListAt wordV w v2 x2) (h3 : ListAt wordV w v3 x3) (hw1 : Word x1) (hw2 : Word x2) (hw3 : Word x3) (hT : Tab w) :
    Calls Tryd.prog 7 #[v1, v2, v3] w fun e w' => e = .returned (.bool true) ∧ Below w.heap.size w w' := by
  have HT := Lib.hid hT
  have HA1 := Lib.hid h1
  have HA2 := Lib.hid h2
  have HA3 := Lib.hid h3
  clear hT h1 h2 h3
  go_enter Tryd.func7, Tryd.ntmps7
  go_wp2_with fail
  refine (cutW_any v1 x1 HA1.out).mono ?_
  rintro e w1 ⟨u1, rfl, hu1, rfl⟩
  have HY1 := Lib.hid hu1
  have HW1 := Lib.hid (hw1.take 20)
  have hl1 := take20 x1
  clear hu1 hw1 HA1
  generalize x1.take 20 = y1 at *
  go_wp2_with fail
  refine (cutW_any v2 x2 HA2.out).mono ?_
  rintro e w1 ⟨u2, rfl, hu2, rfl⟩
  have HY2 := Lib.hid hu2
  have HW2 := Lib.hid (hw2.take 20)
  have hl2 := take20 x2
  clear hu2 hw2 HA2
  generalize x2.take 20 = y2 at *
  go_wp2_with fail
  refine (cutW_any v3 x3 HA3.out).mono ?_
  rintro e w1 ⟨u3, rfl, hu3, rfl⟩
  have HY3 := Lib.hid hu3
  have HW3 := Lib.hid (hw3.take 20)
  have hl3 := take20 x3
  clear hu3 hw3 HA3
  generalize x3.take 20 = y3 at *
  by_cases h12 : y1.length = y2.length
  rotate_left
  · have hb : ((y1.length : Int) == (y2.length : Int)) = false := by simp; omega
    have hb2 : ((y1.length : Int) != (y2.length : Int)) = true := by simp; omega
    have HY1' := HY1.out
    have HY2' := HY2.out
    have HY3' := HY3.out
    obtain ⟨a1, c1, rfl, -, -, -⟩ := HY1'
    obtain ⟨a2, c2, rfl, -, -, -⟩ := HY2'
    obtain ⟨a3, c3, rfl, -, -, -⟩ := HY3'
    go_wp2_with fail
    refine (awake2 (HT.out)).mono ?_
    rintro e wz ⟨rfl, hbz⟩
    have HBZ := Lib.hid (hbz)
    clear hbz
    go_wp2
    go_ret
    exact ⟨rfl, HBZ.out⟩
  by_cases h23 : y2.length = y3.length
  rotate_left
  · have hb : ((y2.length : Int) == (y3.length : Int)) = false := by simp; omega
    have hb2 : ((y2.length : Int) != (y3.length : Int)) = true := by simp; omega
    have HY1' := HY1.out
    have HY2' := HY2.out
    have HY3' := HY3.out
    obtain ⟨a1, c1, rfl, -, -, -⟩ := HY1'
    obtain ⟨a2, c2, rfl, -, -, -⟩ := HY2'
    obtain ⟨a3, c3, rfl, -, -, -⟩ := HY3'
    rw [h12]
    go_wp2_with fail
    refine (awake2 (HT.out)).mono ?_
    rintro e wz ⟨rfl, hbz⟩
    have HBZ := Lib.hid (hbz)
    clear hbz
    go_wp2
    go_ret
    exact ⟨rfl, HBZ.out⟩
  obtain ⟨n, hn⟩ : ∃ n, y1.length = n := ⟨_, rfl⟩
  have HE12 := Lib.hid h12
  have HE23 := Lib.hid h23
  have HN := Lib.hid hn
  have HX12 := Lib.hid (xorW_length h12)
  have HX23 := Lib.hid (xorW_length h23)
  have HY1' := HY1.out
  have HY2' := HY2.out
  have HY3' := HY3.out
  obtain ⟨a1, c1, rfl, -, -, -⟩ := HY1'.words n hn
  obtain ⟨a2, c2, rfl, -, -, -⟩ := HY2'.words n (by omega)
  obtain ⟨a3, c3, rfl, -, -, -⟩ := HY3'.words n (by omega)
  clear HY1' HY2' HY3' h12 h23 hn
  go_wp2_with fail
  refine (Xor_like _ _ y1 y2 (HY1.out) (HY2.out) HW1.out HW2.out (HE12.out) (by omega)).mono ?_
  rintro e q1 ⟨z1, m1, rfl, hz1, hb1⟩
  have HL1 := Lib.hid (ListAt.of_owns (f := wordV) hz1)
  have HV1 := Lib.hid (HW1.out.xor HW2.out)
  have HB1 := Lib.hid (hb1)
  have HD1 := Lib.hid hb1
  clear hz1 hb1
  go_wp2_with fail
  refine (Xor_like _ _ y2 y1 (HY2.out.mono HB1.out) (HY1.out.mono HB1.out) HW2.out HW1.out (HE12.out.symm) (by omega)).mono ?_
  rintro e q2 ⟨z2, m2, rfl, hz2, hb2⟩
  have HL2 := Lib.hid (ListAt.of_owns (f := wordV) hz2)
  have HV2 := Lib.hid (HW2.out.xor HW1.out)
  have HB2 := Lib.hid (HB1.out.trans (hb2.mono HB1.out.size))
  have HD2 := Lib.hid hb2
  clear hz2 hb2
  go_wp2_with fail
  refine (Xor_like _ _ (xorW y1 y2) y3 (HL1.out.mono HD2.out) (HY3.out.mono HB2.out) HV1.out HW3.out (by rw [HX12.out]; exact HE12.out.trans HE23.out) (by rw [HX12.out]; omega)).mono ?_
  rintro e q3 ⟨z3, m3, rfl, hz3, hb3⟩
  have HL3 := Lib.hid (ListAt.of_owns (f := wordV) hz3)
  have HV3 := Lib.hid (HV1.out.xor HW3.out)
  have HB3 := Lib.hid (HB2.out.trans (hb3.mono HB2.out.size))
  have HD3 := Lib.hid hb3
  clear hz3 hb3
  go_wp2_with fail
  refine (Xor_like _ _ y2 y3 (HY2.out.mono HB3.out) (HY3.out.mono HB3.out) HW2.out HW3.out (HE23.out) (by omega)).mono ?_
  rintro e q4 ⟨z4, m4, rfl, hz4, hb4⟩
  have HL4 := Lib.hid (ListAt.of_owns (f := wordV) hz4)
  have HV4 := Lib.hid (HW2.out.xor HW3.out)
  have HB4 := Lib.hid (HB3.out.trans (hb4.mono HB3.out.size))
  have HD4 := Lib.hid hb4
  clear hz4 hb4
  go_wp2_with fail
  refine (Xor_like _ _ y1 (xorW y2 y3) (HY1.out.mono HB4.out) (HL4.out) HW1.out HV4.out (by rw [HX23.out]; exact HE12.out) (by omega)).mono ?_
  rintro e q5 ⟨z5, m5, rfl, hz5, hb5⟩
  have HL5 := Lib.hid (ListAt.of_owns (f := wordV) hz5)
  have HV5 := Lib.hid (HW1.out.xor HV4.out)
  have HB5 := Lib.hid (HB4.out.trans (hb5.mono HB4.out.size))
  have HD5 := Lib.hid hb5
  clear hz5 hb5
  go_wp2_with fail
  refine (Xor_like _ _ y1 y1 (HY1.out.mono HB5.out) (HY1.out.mono HB5.out) HW1.out HW1.out (rfl) (by omega)).mono ?_
  rintro e q6 ⟨z6, m6, rfl, hz6, hb6⟩
  have HL6 := Lib.hid (ListAt.of_owns (f := wordV) hz6)
  have HV6 := Lib.hid (HW1.out.xor HW1.out)
  have HB6 := Lib.hid (HB5.out.trans (hb6.mono HB5.out.size))
  have HD6 := Lib.hid hb6
  clear hz6 hb6
  have HR2 : Hid (ListAt wordV q6 z2 (xorW y1 y2)) := Lib.hid (by
    rw [xorW_comm y1 y2]
    exact (((HL2.out.mono HD3.out).mono HD4.out).mono HD5.out).mono HD6.out)
  have HR1 : Hid (ListAt wordV q6 z1 (xorW y1 y2)) := Lib.hid (((((HL1.out.mono HD2.out).mono HD3.out).mono HD4.out).mono HD5.out).mono HD6.out)
  have HR3 : Hid (ListAt wordV q6 z3 (xorW y1 (xorW y2 y3))) := Lib.hid (by
    rw [← xorW_assoc]
    exact ((HL3.out.mono HD4.out).mono HD5.out).mono HD6.out)
  have HR5 : Hid (ListAt wordV q6 z5 (xorW y1 (xorW y2 y3))) := Lib.hid (HL5.out.mono HD6.out)
  go_wp2_with fail
  refine (SameW_any _ _ (xorW y1 y2) HR1.out HR2.out).mono ?_
  rintro e q7 ⟨rfl, hb7⟩
  have HB7 := Lib.hid (HB6.out.trans (hb7.mono HB6.out.size))
  have HD7 := Lib.hid hb7
  clear hb7
  go_wp2_with fail
  refine (SameW_any _ _ (xorW y1 (xorW y2 y3)) (HR3.out.mono HD7.out) (HR5.out.mono HD7.out)).mono ?_
  rintro e q8 ⟨rfl, hb8⟩
  have HB8 := Lib.hid (HB7.out.trans (hb8.mono HB7.out.size))
  have HD8 := Lib.hid hb8
  clear hb8
  have HX11 := Lib.hid (xorW_length (rfl : y1.length = y1.length))
  go_wp2_with fail
  refine (Count_any _ (xorW y1 y1) ((HL6.out.mono HD7.out).mono HD8.out) HV6.out (by rw [HX11.out]; omega)).mono ?_
  rintro e q9 ⟨rfl, rfl⟩
  rw [colsOf_self]
  go_wp2_with fail
  refine (awake2 (HT.out.mono HB8.out)).mono ?_
  rintro e wz ⟨rfl, hbz⟩
  have HBZ := Lib.hid (HB8.out.trans (hbz.mono HB8.out.size))
  clear hbz
  go_wp2
  go_ret
  exact ⟨rfl, HBZ.out⟩

theorem firstCol_nil {ws : List Nat} (h : colsOf ws = []) : firstCol ws = -1 := by rw [firstCol, h]; rfl
theorem firstCol_cons {ws : List Nat} {c : Nat} {r : List Nat} (h : colsOf ws = c :: r) : firstCol ws = (c : Int) := by rw [firstCol, h]; rfl

set_option maxRecDepth 1000000 in
set_option maxHeartbeats 4000000 in
theorem unpacks2 {w : World} (v1 : Value) (x1 : List Nat) (c : Int) (h1 : ListAt wordV w v1 x1) (hw1 : Word x1) (hT : Tab w) (hc : -9223372036854775808 ≤ c ∧ c ≤ 9223372036854775807) :
    Calls Tryd.prog 4 #[v1, .int .i64 c] w fun e w' => e = .returned (.bool true) ∧ Below w.heap.size w w' := by
  have HCC := Lib.hid hc
  clear hc
  have HT := Lib.hid hT
  have HA1 := Lib.hid h1
  clear hT h1
  go_enter Tryd.func4, Tryd.ntmps4
  go_wp2_with fail
  refine (cutW_any v1 x1 HA1.out).mono ?_
  rintro e w1 ⟨u1, rfl, hu1, rfl⟩
  have HY1 := Lib.hid hu1
  have HW1 := Lib.hid (hw1.take 20)
  have hl1 := take20 x1
  clear hu1 hw1 HA1
  generalize x1.take 20 = y1 at *
  go_wp2_with fail
  refine (refUnpack_any _ y1 HY1.out HW1.out (by omega)).mono ?_
  rintro e q1 ⟨z1, rfl, hz1, hb1⟩
  have HL1 := Lib.hid hz1
  have HB1 := Lib.hid hb1
  obtain ⟨a1, c1, rfl, hcap, hcm, hcell⟩ := hz1
  clear hb1 hcm
  have hlen2 := colsOf_length_le y1
  have HF : Hid (∃ f : Int, firstCol y1 = f ∧ ((colsOf y1 = [] ∧ f = -1) ∨ (∃ d r, colsOf y1 = d :: r ∧ f = (d : Int) ∧ ∃ b off, a1 = some ⟨b, off, none⟩ ∧ q1.cell? ⟨b, off, none⟩ = some (.int .i64 f)))) := Lib.hid (by
    cases hcl : colsOf y1 with
    | nil => exact ⟨_, firstCol_nil hcl, .inl ⟨rfl, rfl⟩⟩
    | cons d r =>
      refine ⟨_, firstCol_cons hcl, .inr ⟨d, r, rfl, rfl, ?_⟩⟩
      obtain ⟨b, off, e, hx⟩ := hcell (by rw [hcl]; simp)
      refine ⟨b, off, e, ?_⟩
      have := hx 0 (by rw [hcl]; simp)
      simp only [hcl, List.getElem_cons_zero, Nat.add_zero] at this
      exact this)
  clear hcell
  obtain ⟨f, HF1, HF2⟩ := HF.out
  have HFF := Lib.hid HF1
  clear HF HF1
  rcases HF2 with ⟨hcl, rfl⟩ | ⟨d, r, hcl, hfd, b, off, rfl, hcell0⟩
  · have hlen0 : (colsOf y1).length = 0 := by rw [hcl]; rfl
    have HLEN := Lib.hid hlen0
    rw [hlen0] at HL1 ⊢
    clear hcl
    go_wp2_with fail
    refine (Unpack_any _ y1 (HY1.out.mono HB1.out) HW1.out (by omega)).mono ?_
    rintro e q2 ⟨z2, rfl, hz2, hb2⟩
    have HL2 := Lib.hid hz2
    have HD2 := Lib.hid hb2
    have HB2 := Lib.hid (HB1.out.trans (hb2.mono HB1.out.size))
    clear hz2 hb2
    go_wp2_with fail
    refine (SameI_any _ _ _ HL2.out.cols (HL1.out.mono HD2.out).cols).mono ?_
    rintro e q3 ⟨rfl, hb3⟩
    have HB3 := Lib.hid (HB2.out.trans (hb3.mono HB2.out.size))
    clear hb3
    go_wp2_with fail
    refine (Count_any _ y1 (HY1.out.mono HB3.out) HW1.out (by omega)).mono ?_
    rintro e q4 ⟨rfl, rfl⟩
    rw [HLEN.out]
    go_wp2_with fail
    refine (First_any _ y1 (HY1.out.mono HB3.out) HW1.out (by omega) (HT.out.mono HB3.out)).mono ?_
    rintro e q4 ⟨rfl, rfl⟩
    rw [HFF.out]
    go_wp2_with fail
    refine (Has_any _ y1 c (HY1.out.mono HB3.out) HW1.out HCC.out).mono ?_
    rintro e q4 ⟨rfl, rfl⟩
    go_wp2_with fail
    refine (refHas_any _ y1 c (HY1.out.mono HB3.out) HW1.out (by omega) HCC.out).mono ?_
    rintro e q4 ⟨rfl, rfl⟩
    have heq := eqBool (hasI y1 c)
    generalize hasI y1 c = r at *
    go_wp2_with fail
    refine (awake2 (HT.out.mono HB3.out)).mono ?_
    rintro e wz ⟨rfl, hbz⟩
    have HBZ := Lib.hid (HB3.out.trans (hbz.mono HB3.out.size))
    clear hbz
    go_wp2
    go_ret
    exact ⟨rfl, HBZ.out⟩
  · have hpos : 0 < (colsOf y1).length := by rw [hcl]; simp
    generalize hm : (colsOf y1).length = m at *
    have HLEN := Lib.hid hm
    clear hcl hfd hm
    go_wp2_with fail
    refine (Unpack_any _ y1 (HY1.out.mono HB1.out) HW1.out (by omega)).mono ?_
    rintro e q2 ⟨z2, rfl, hz2, hb2⟩
    have HL2 := Lib.hid hz2
    have HD2 := Lib.hid hb2
    have HB2 := Lib.hid (HB1.out.trans (hb2.mono HB1.out.size))
    clear hz2 hb2
    go_wp2_with fail
    refine (SameI_any _ _ _ HL2.out.cols (HL1.out.mono HD2.out).cols).mono ?_
    rintro e q3 ⟨rfl, hb3⟩
    have HB3 := Lib.hid (HB2.out.trans (hb3.mono HB2.out.size))
    clear hb3
    go_wp2_with fail
    refine (Count_any _ y1 (HY1.out.mono HB3.out) HW1.out (by omega)).mono ?_
    rintro e q4 ⟨rfl, rfl⟩
    rw [HLEN.out]
    go_wp2_with fail
    refine (First_any _ y1 (HY1.out.mono HB3.out) HW1.out (by omega) (HT.out.mono HB3.out)).mono ?_
    rintro e q4 ⟨rfl, rfl⟩
    rw [HFF.out]
    have hff : (f == f) = true := by simp
    go_wp2_with fail
    refine (Has_any _ y1 c (HY1.out.mono HB3.out) HW1.out HCC.out).mono ?_
    rintro e q4 ⟨rfl, rfl⟩
    go_wp2_with fail
    refine (refHas_any _ y1 c (HY1.out.mono HB3.out) HW1.out (by omega) HCC.out).mono ?_
    rintro e q4 ⟨rfl, rfl⟩
    have heq := eqBool (hasI y1 c)
    generalize hasI y1 c = r at *
    go_wp2_with fail
    refine (awake2 (HT.out.mono HB3.out)).mono ?_
    rintro e wz ⟨rfl, hbz⟩
    have HBZ := Lib.hid (HB3.out.trans (hbz.mono HB3.out.size))
    clear hbz
    go_wp2
    go_ret
    exact ⟨rfl, HBZ.out⟩
end Go.Proofs.YtdmgcnmapglhiaaDoor
