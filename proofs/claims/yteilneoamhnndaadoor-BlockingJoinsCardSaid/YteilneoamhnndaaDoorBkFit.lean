/- Package blocking: fit. -/
import Derived.Test.YteilneoamhnndaaDoorLaw14
import Derived.Test.YteilneoamhnndaaDoorCubes
namespace Go.Proofs.YteilneoamhnndaaDoor
open Go.RowKit Go.Extern.Stop Go.Stop Go.Extern

/-- Are the blocks as many, each of as many symbols, each of as many bytes, as the plan says? -/
def RowFit (b c : Nat) (M : List (List Nat)) : Prop := M.length = c ∧ ∀ k, k < M.length → (M.getD k []).length = b
def FitOk (b n l q : Nat) (C : List (List (List Nat))) : Prop := C.length = n ∧ ∀ i, i < n → RowFit b (cntP l q i) (C.getD i [])

set_option maxRecDepth 1000000 in
set_option maxHeartbeats 4000000 in
theorem bkFit_any {w : World} {s b n l q : Nat} (h : PlanOk s b n l q) (v : Value) (C : List (List (List Nat))) (hC : CubeAt byteV w v C) :
    Calls Tryd.prog 32 #[.agg #[.int .i64 (s : Int), .int .i64 (b : Int), .int .i64 (n : Int), .int .i64 (l : Int), .int .i64 (q : Int)], v] w fun e w' => ∃ t : Bool, e = .returned (.bool t) ∧ (t = true ↔ FitOk b n l q C) ∧ Below w.heap.size w w' := by
  obtain ⟨W0, hW0, hb0, hbx⟩ := pl_laid w (s : Int) (b : Int) (n : Int) (l : Int) (q : Int)
  have HW0 := Lib.hid hW0
  have HB0 := Lib.hid hb0
  have HX := Lib.hid hbx
  have HC := Lib.hid (hC.mono hb0)
  have HCN : Hid (∀ (i : Nat) (V : World), Calls Tryd.prog 27 #[.agg #[.int .i64 (s : Int), .int .i64 (b : Int), .int .i64 (n : Int), .int .i64 (l : Int), .int .i64 (q : Int)], .int .i64 (i : Int)] V fun e w' => e = .returned (.int .i64 ((cntP l q i : Nat) : Int)) ∧ Below V.heap.size V w') := Lib.hid fun i V => bkCount_ok h i
  have HCB : Hid (∀ i, cntP l q i ≤ 128) := Lib.hid fun i => (h.cnt i).2
  have hn := h.n16
  have hb64 := h.b64
  obtain ⟨a, cap, rfl, hc1, hc2, -⟩ := hC.opens
  obtain ⟨c0, c1, c2, c3, c4⟩ := hbx.cells
  have hlen := hC.len
  clear hW0 hb0 hbx hC h
  by_cases hne : C.length = n
  · have HL := Lib.hid hne
    rw [hne] at hc1 hlen ⊢
    clear hne
    have d1 : ((n : Int) != (n : Int)) = false := by simp
    go_enter Tryd.func32, Tryd.ntmps32
    go_upto_region 1 with fail
    rw [← HW0.out]
    go_wp2_with fail
    go_loopw [16] (fun i wr => ∃ j : Nat, j ≤ n ∧ i = .int .i64 (j : Int) ∧ (∀ i, i < j → RowFit b (cntP l q i) (C.getD i [])) ∧ Below W0.heap.size W0 wr) (fun i _ => n - (intOf i).toNat)
    case atStart => exact ⟨0, by omega, rfl, fun i hi => by omega, Below.refl _ _⟩
    case round =>
      obtain ⟨j, hj, rfl, hfit, hbel⟩ := hrel
      have HF := Lib.hid hfit
      have HB := Lib.hid hbel
      clear hfit c0 c1 c2 c3 c4
      by_cases hlt : j < n
      · have d2 : decide ((j : Int) < (n : Int)) = true := decide_eq_true (by omega)
        obtain ⟨a', cap', he, -, -, hcell⟩ := (HC.out.mono hbel).opens
        obtain ⟨bk, off, hab, hcc⟩ := hcell (by rw [HL.out]; omega)
        have hab2 : a = some ⟨bk, off, none⟩ := by rw [HL.out] at he; simp at he; rw [he.1]; exact hab
        subst hab2
        obtain ⟨x, hx, hxm⟩ := hcc j (by rw [HL.out]; omega)
        have HXM := Lib.hid hxm
        have hMl := hxm.len
        obtain ⟨ax, cx, rfl, hx1, hx2, -⟩ := hxm.opens
        have HCNj := Lib.hid (HCN.out j)
        have hcb := HCB.out j
        have HCj : Hid (∀ i, i < j + 1 → i ≠ j → RowFit b (cntP l q i) (C.getD i [])) := Lib.hid fun i h1 h2 => HF.out i (by omega)
        obtain ⟨M, hM⟩ : ∃ M, M = C.getD j [] := ⟨_, rfl⟩
        rw [← hM] at HXM hx hMl hx1
        have HM := Lib.hid hM
        obtain ⟨c, hcE⟩ : ∃ c, c = cntP l q j := ⟨_, rfl⟩
        rw [← hcE] at HCNj hcb
        have HCE := Lib.hid hcE
        clear hcell hcc hxm hbel hM hcE
        obtain ⟨c0, c1, c2, c3, c4⟩ := (HX.out.mono HB.out).cells
        go_wp2_with fail
        refine (HCNj.out _).mono ?_
        rintro e w3 ⟨rfl, hb3⟩
        have HB3 := Lib.hid (HB.out.trans (hb3.mono HB.out.size))
        have HXM3 := Lib.hid (HXM.out.mono hb3)
        clear c0 c1 c2 c3 c4 hx hb3
        obtain ⟨c0, c1, c2, c3, c4⟩ := (HX.out.mono HB3.out).cells
        by_cases hml : M.length = c
        · have d3 : ((M.length : Int) != (c : Int)) = false := by simp; omega
          have HML := Lib.hid hml
          clear hml
          go_wp2_with fail
          go_loopw [29] (fun i wr => ∃ k : Nat, k ≤ M.length ∧ i = .int .i64 (k : Int) ∧ (∀ t, t < k → (M.getD t []).length = b) ∧ w3 = wr) (fun i _ => M.length - (intOf i).toNat)
          case atStart => exact ⟨0, by omega, rfl, fun i hi => by omega, rfl⟩
          case round =>
            obtain ⟨k, hk, rfl, hrow, rfl⟩ := hrel
            have HR := Lib.hid hrow
            clear hrow
            by_cases hkl : k < M.length
            · have d4 : decide ((k : Int) < (M.length : Int)) = true := decide_eq_true (by omega)
              obtain ⟨a2, cap2, he2, -, -, hcell⟩ := HXM3.out.opens
              obtain ⟨bk2, off2, hab, hcc⟩ := hcell (by omega)
              have hab2 : ax = some ⟨bk2, off2, none⟩ := by simp at he2; rw [he2.1]; exact hab
              subst hab2
              obtain ⟨y, hy, hyl⟩ := hcc k hkl
              obtain ⟨ay, cy, rfl, hy1, hy2, -⟩ := hyl
              obtain ⟨r, hr⟩ : ∃ r, r = M.getD k [] := ⟨_, rfl⟩
              rw [← hr] at hy hy1
              have HRr := Lib.hid hr
              clear hcell hcc he2 hr
              by_cases hrb : r.length = b
              · have d5 : ((r.length : Int) != (b : Int)) = false := by simp; omega
                have HRB := Lib.hid hrb
                clear hrb
                go_wp2
                go_roundw
                case rel => exact ⟨k + 1, hkl, by go_num, fun t ht => by
                  rcases (by omega : t < k ∨ t = k) with h | rfl
                  · exact HR.out t h
                  · rw [← HRr.out]; exact HRB.out, trivial⟩
                case measure => simp [intOf]; omega
              · have d5 : ((r.length : Int) != (b : Int)) = true := by simp; omega
                have HRB := Lib.hid hrb
                clear hrb
                go_wp2
                go_ret
                refine ⟨false, rfl, ⟨fun h => (by cases h), fun h => ?_⟩, HB0.out.trans (HB3.out.mono HB0.out.size)⟩
                exfalso
                have h2 := (h.2 j hlt).2
                rw [← HM.out] at h2
                have h3 := h2 k hkl
                rw [← HRr.out] at h3
                exact HRB.out h3
            · obtain rfl : k = M.length := by omega
              have d4 : decide ((M.length : Int) < (M.length : Int)) = false := decide_eq_false (by omega)
              go_wp2
              go_roundw
              case rel => exact ⟨j + 1, hlt, by go_num, fun i hi => by
                by_cases e : i = j
                · subst e
                  exact ⟨by rw [← HM.out, HML.out, HCE.out], fun t ht => by rw [← HM.out] at ht ⊢; exact HR.out t ht⟩
                · exact HCj.out i hi e, HB3.out⟩
              case measure => simp [intOf]; omega
        · have d3 : ((M.length : Int) != (c : Int)) = true := by simp; omega
          have HML := Lib.hid hml
          clear hml
          go_wp2
          go_ret
          refine ⟨false, rfl, ⟨fun h => (by cases h), fun h => ?_⟩, HB0.out.trans (HB3.out.mono HB0.out.size)⟩
          exfalso
          have h2 := (h.2 j hlt).1
          rw [← HM.out, ← HCE.out] at h2
          exact HML.out h2
      · obtain rfl : j = n := by omega
        have d2 : decide ((j : Int) < (j : Int)) = false := decide_eq_false (by omega)
        clear hbel
        go_wp2
        go_ret
        exact ⟨true, rfl, ⟨fun _ => ⟨HL.out, HF.out⟩, fun _ => rfl⟩, HB0.out.trans (HB.out.mono HB0.out.size)⟩
  · have d1 : ((C.length : Int) != (n : Int)) = true := by simp; omega
    have HL := Lib.hid hne
    clear hne
    go_enter Tryd.func32, Tryd.ntmps32
    go_upto_region 1 with fail
    rw [← HW0.out]
    go_wp2
    go_ret
    exact ⟨false, rfl, ⟨fun h => (by cases h), fun h => absurd h.1 HL.out⟩, HB0.out⟩
end Go.Proofs.YteilneoamhnndaaDoor
