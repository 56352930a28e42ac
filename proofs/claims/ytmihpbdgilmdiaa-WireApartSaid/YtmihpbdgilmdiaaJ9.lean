import Derived.Test.YtmihpbdgilmdiaaBkMath
import Derived.Test.YtmihpbdgilmdiaaLists
import Derived.Test.YtmihpbdgilmdiaaOwn
import Derived.Test.YtmihpbdgilmdiaaJ11
import Derived.Deep.RegionHeld3
import Derived.Deep.Cut
import Derived.BigQuiet

section
/- Package blocking: over (a closure), symbols, and the document's Symbols. -/
namespace Go.Proofs.Ytmihpbdgilmdiaa
open Go.RowKit Go.Extern.Stop Go.Stop Go.Extern

theorem wrap_div (n d : Nat) (hn : n ≤ 9223372036854775807) : wrap64 ((n : Int) / (d : Int)) = ((n / d : Nat) : Int) := by
  have := Nat.div_le_self n d
  rw [← Int.natCast_ediv]
  generalize n / d = q at *
  unfold wrap64; omega
theorem pos_mod (n d : Nat) : 0 < (n : Int) % (d : Int) ↔ 0 < n % d := by rw [← Int.natCast_emod]; omega
theorem upN_pos {n d : Nat} (h : 0 < n % d) : upN d n = n / d + 1 := by unfold upN; rw [if_pos h]
theorem upN_not {n d : Nat} (h : ¬ 0 < n % d) : upN d n = n / d := by unfold upN; rw [if_neg h]; rfl

set_option maxRecDepth 1000000 in
set_option maxHeartbeats 4000000 in
theorem bkOver1_any {w : World} (bx d n : Nat) (hd : 1 ≤ d) (hn : n ≤ 9223372036854775807) (hc : w.cell? ⟨bx, 0, none⟩ = some (.int .i64 (d : Int))) :
    Calls Try.prog 39 #[.int .i64 (n : Int), .pointer (some ⟨bx, 0, none⟩)] w fun e w' => e = .returned (.int .i64 ((upN d n : Nat) : Int)) ∧ w = w' := by
  have h0 : ¬ (d : Int) = 0 := by omega
  have hz : ((d : Int) == 0) = false := by simpa using h0
  have hle := upN_self hd n
  go_enter Try.func39, Try.ntmps39
  go_wp2_with fail
  · rename_i h
    go_ret
    have h' : 0 < n % d := (pos_mod n d).1 h
    refine ⟨?_, rfl⟩
    show Ending.returned (Value.int .i64 (wrap64 (wrap64 ((n : Int) / (d : Int)) + 1))) = _
    rw [upN_pos h'] at hle ⊢
    rw [wrap_div n d hn]
    generalize n / d = q at *
    congr 2
    unfold wrap64; omega
  · rename_i h
    go_ret
    have h' : ¬ 0 < n % d := fun k => by have := (pos_mod n d).2 k; omega
    refine ⟨?_, rfl⟩
    show Ending.returned (Value.int .i64 (wrap64 ((n : Int) / (d : Int)))) = _
    rw [wrap_div n d hn, upN_not h']

/-- What over gives: a function that keeps its number in a block of its own. -/
theorem bkOver_any {w : World} (d : Int) : Calls Try.prog 38 #[.int .i64 d] w fun e w' => e = .returned (.func (.func 39) #[] #[.pointer (some ⟨w.heap.size, 0, none⟩)]) ∧ w' = w.alloc (.cells #[.int .i64 d] 3) := by
  go_enter Try.func38, Try.ntmps38
  go_wp2
  go_ret
  exact ⟨rfl, rfl⟩

set_option maxRecDepth 1000000 in
set_option maxHeartbeats 4000000 in
theorem bkSymbols_any {w : World} (s b : Nat) (hb : 1 ≤ b) (hs : s ≤ 9223372036854775807) :
    Calls Try.prog 37 #[.int .i64 (s : Int), .int .i64 (b : Int)] w fun e w' => e = .returned (.int .i64 ((symT s b : Nat) : Int)) ∧ Below w.heap.size w w' := by
  have hle := symT_le (s := s) hb
  have hu := upN_self hb s
  have hM : Hid (symT s b = max (upN b s) 1) := Lib.hid rfl
  go_enter Try.func37, Try.ntmps37
  go_wp2_with fail
  refine (bkOver_any _).mono ?_
  rintro e w1 ⟨rfl, rfl⟩
  go_wp2_with fail
  refine (bkOver1_any w.heap.size b s hb hs (by simp)).mono ?_
  rintro e w1 ⟨rfl, rfl⟩
  generalize upN b s = u at *
  go_wp2
  · go_ret
    refine ⟨?_, (Below.refl _ _).alloc (Nat.le_refl _) _⟩
    show Ending.returned (Value.int .i64 1) = _
    rw [show symT s b = 1 by rw [hM.out]; omega]; rfl
  · go_ret
    refine ⟨?_, (Below.refl _ _).alloc (Nat.le_refl _) _⟩
    show Ending.returned (Value.int .i64 (u : Int)) = _
    rw [show symT s b = u by rw [hM.out]; omega]

end Go.Proofs.Ytmihpbdgilmdiaa
end

section
/- A plan in a block of its own; a plan as a result. -/
namespace Go.Proofs.Ytmihpbdgilmdiaa
open Go.RowKit Go.Extern.Stop Go.Stop Go.Extern

theorem bk_row2 {P : Program} {fn : Func} {p t : Tmp} {ty : TypeId} (h : fn.results = #[.cell p ty, .tmp t]) (tmps : Array Value) (w : World) (g : Nat) (tt : TypeId) (cs : Array Value) (fr : Nat × Nat) (d : TypeDesc)
    (hp : tmps.getD p undef = .pointer (some ⟨g, 0, none⟩)) (hg : w.heap[g]? = some (.cells cs tt fr))
    (hu : P.underlying ty = some d) (hd : (match d with | .struct _ | .array _ _ => true | _ => false) = true) (hi : (P.info? ty).map (·.size) = some cs.size) :
    (results fn tmps).run P w = .ok (.tuple #[.agg cs, tmps.getD t undef]) w := by
  have hp' : tmps[p]?.getD undef = .pointer (some ⟨g, 0, none⟩) := by simpa using hp
  simp [results, h, hp', asAddr, run_loadVar_row w g tt ty cs fr d hg hu hd hi]

/-- A plan as a struct. -/
def plC (s b n l q : Int) : Array Value := #[.int .i64 s, .int .i64 b, .int .i64 n, .int .i64 l, .int .i64 q]
def plV (s b n l q : Int) : Value := .agg (plC s b n l q)
/-- A plan in a block of its own. -/
def PlBox (W : World) (g : Nat) (s b n l q : Int) : Prop := W.heap[g]? = some (.cells (plC s b n l q) 24 (0, 0))
theorem PlBox.lt {W : World} {g : Nat} {s b n l q : Int} (h : PlBox W g s b n l q) : g < W.heap.size := (Array.getElem?_eq_some_iff.1 h).1
theorem PlBox.mono {W W' : World} {g : Nat} {s b n l q : Int} (h : PlBox W g s b n l q) (hb : Below W.heap.size W W') : PlBox W' g s b n l q := (hb.block g h.lt).trans h
theorem PlBox.cells {W : World} {g : Nat} {s b n l q : Int} (h : PlBox W g s b n l q) :
    W.cell? ⟨g, 0, none⟩ = some (.int .i64 s) ∧ W.cell? ⟨g, 1, none⟩ = some (.int .i64 b) ∧ W.cell? ⟨g, 2, none⟩ = some (.int .i64 n) ∧ W.cell? ⟨g, 3, none⟩ = some (.int .i64 l) ∧ W.cell? ⟨g, 4, none⟩ = some (.int .i64 q) :=
  ⟨cell_of_heap h rfl, cell_of_heap h rfl, cell_of_heap h rfl, cell_of_heap h rfl, cell_of_heap h rfl⟩
theorem pl_laid (w : World) (s b n l q : Int) : ∃ W, W = w.alloc (.cells #[.int .i64 s, .int .i64 b, .int .i64 n, .int .i64 l, .int .i64 q] 24) ∧ Below w.heap.size w W ∧ PlBox W w.heap.size s b n l q :=
  ⟨_, rfl, (Below.refl _ _).alloc (Nat.le_refl _) _, heap_alloc_new w _⟩
theorem PlBox.done {W : World} {g : Nat} (h : PlBox W g 0 0 0 0 0) (a b c d e : Value) : (((((W.setCell ⟨g, 0, none⟩ a).setCell ⟨g, 1, none⟩ b).setCell ⟨g, 2, none⟩ c).setCell ⟨g, 3, none⟩ d).setCell ⟨g, 4, none⟩ e).heap[g]? = some (.cells #[a, b, c, d, e] 24 (0, 0)) :=
  heap_setCell_at (heap_setCell_at (heap_setCell_at (heap_setCell_at (heap_setCell_at h))))
theorem PlBox.below {W w : World} {B g : Nat} (hb : Below B w W) (hg : B ≤ g) (a b c d e : Value) : Below B w (((((W.setCell ⟨g, 0, none⟩ a).setCell ⟨g, 1, none⟩ b).setCell ⟨g, 2, none⟩ c).setCell ⟨g, 3, none⟩ d).setCell ⟨g, 4, none⟩ e) :=
  ((((hb.setCell (p := ⟨g, 0, none⟩) hg a).setCell (p := ⟨g, 1, none⟩) hg b).setCell (p := ⟨g, 2, none⟩) hg c).setCell (p := ⟨g, 3, none⟩) hg d).setCell (p := ⟨g, 4, none⟩) hg e
theorem PlBox.err {W : World} {g : Nat} {k : Int} {n : ByteArray} {E : Value} (h : PlBox W g 0 0 0 0 0) (he : ErrAns k n W E) (a b c d e : Value) : ErrAns k n (((((W.setCell ⟨g, 0, none⟩ a).setCell ⟨g, 1, none⟩ b).setCell ⟨g, 2, none⟩ c).setCell ⟨g, 3, none⟩ d).setCell ⟨g, 4, none⟩ e) E :=
  errAns_kept2 he fun x s hc => by
    have n1 : x ≠ g := by
      rintro rfl
      rw [cell_of_heap (j := 0) (u := .int .i64 0) h rfl] at hc
      cases hc
    rw [Below.heap_setCell _ _ _ _ n1, Below.heap_setCell _ _ _ _ n1, Below.heap_setCell _ _ _ _ n1, Below.heap_setCell _ _ _ _ n1, Below.heap_setCell _ _ _ _ n1]
end Go.Proofs.Ytmihpbdgilmdiaa
end

section
/- Package blocking: count, wrong; the document's Source and Check. -/
namespace Go.Proofs.Ytmihpbdgilmdiaa
open Go.RowKit Go.Extern.Stop Go.Stop Go.Extern

set_option maxRecDepth 1000000 in
set_option maxHeartbeats 4000000 in
theorem bkCount_any {w : World} (s b n l q i : Int) (hq : 0 ≤ q) (hq2 : q ≤ 128) : Calls Try.prog 36 #[plV s b n l q, .int .i64 i] w fun e w' => e = .returned (.int .i64 (if i < l then q + 1 else q)) ∧ Below w.heap.size w w' := by
  unfold plV plC
  by_cases h : i < l
  · have d1 : decide (i < l) = true := decide_eq_true h
    rw [if_pos h]
    go_enter Try.func36, Try.ntmps36
    go_wp2
    go_ret
    exact ⟨rfl, (Below.refl _ _).alloc (Nat.le_refl _) _⟩
  · have d1 : decide (i < l) = false := decide_eq_false h
    rw [if_neg h]
    go_enter Try.func36, Try.ntmps36
    go_wp2
    go_ret
    exact ⟨rfl, (Below.refl _ _).alloc (Nat.le_refl _) _⟩

set_option maxRecDepth 1000000 in
set_option maxHeartbeats 4000000 in
theorem bkWrong_any {w : World} (s b n l q : Int) (hs : I64 s) (hb : I64 b) (hn : I64 n) (hl : I64 l) (hq : I64 q) :
    Calls Try.prog 35 #[plV s b n l q] w fun e w' => e = .returned (.int .i64 (planC s b n l q)) ∧ Below w.heap.size w w' := by
  by_cases hA : s < 0 ∨ b < 1 ∨ 64 < b
  · have hP : planC s b n l q = 1 := by unfold planC; rw [if_pos hA]
    rw [hP]
    unfold plV plC
    go_enter Try.func35, Try.ntmps35
    go_wp2_with fail
    all_goals first
      | (go_ret; exact ⟨rfl, (Below.refl _ _).alloc (Nat.le_refl _) _⟩)
      | (exfalso; omega)
  have a1 : decide (s < 0) = false := decide_eq_false (by omega)
  have a2 : decide (b < 1) = false := decide_eq_false (by omega)
  have a3 : decide (64 < b) = false := decide_eq_false (by omega)
  by_cases hB : n < 1 ∨ 16 < n ∨ l < 0 ∨ n ≤ l
  · have hP : planC s b n l q = 2 := by unfold planC; rw [if_neg hA, if_pos (by omega)]
    rw [hP]
    clear hA
    unfold plV plC
    go_enter Try.func35, Try.ntmps35
    go_wp2_with fail
    all_goals first
      | (go_ret; exact ⟨rfl, (Below.refl _ _).alloc (Nat.le_refl _) _⟩)
      | (exfalso; omega)
  have b1 : decide (n < 1) = false := decide_eq_false (by omega)
  have b2 : decide (16 < n) = false := decide_eq_false (by omega)
  have b3 : decide (l < 0) = false := decide_eq_false (by omega)
  have b4 : decide (n ≤ l) = false := decide_eq_false (by omega)
  by_cases hC : q < 1 ∨ 128 < q
  · have hP : planC s b n l q = 2 := by unfold planC; rw [if_neg hA, if_pos (by omega)]
    rw [hP]
    clear hA hB
    unfold plV plC
    go_enter Try.func35, Try.ntmps35
    go_wp2_with fail
    all_goals first
      | (go_ret; exact ⟨rfl, (Below.refl _ _).alloc (Nat.le_refl _) _⟩)
      | (exfalso; omega)
  have c1 : decide (q < 1) = false := decide_eq_false (by omega)
  have c2 : decide (128 < q) = false := decide_eq_false (by omega)
  obtain ⟨W0, hW0, hb0, hbx⟩ := pl_laid w s b n l q
  have HW0 := Lib.hid hW0
  have HB0 := Lib.hid hb0
  have HCNT : Hid (Calls Try.prog 36 #[.agg #[.int .i64 s, .int .i64 b, .int .i64 n, .int .i64 l, .int .i64 q], .int .i64 0] W0 fun e w' => e = .returned (.int .i64 (if 0 < l then q + 1 else q)) ∧ Below W0.heap.size W0 w') := Lib.hid (bkCount_any s b n l q 0 (by omega) (by omega))
  have HQ : Hid (planC s b n l q = if 0 < l ∧ q = 128 then 2 else if n * q + l = (symT s.toNat b.toNat : Int) then 0 else 2) := Lib.hid (by
    unfold planC
    rw [if_neg hA]
    by_cases h : 0 < l ∧ q = 128
    · rw [if_pos (by omega), if_pos h]
    · rw [if_neg (by omega), if_neg h])
  obtain ⟨S, hS⟩ : ∃ S : Nat, s = S := ⟨s.toNat, by omega⟩
  obtain ⟨B, hB'⟩ : ∃ B : Nat, b = B := ⟨b.toNat, by omega⟩
  subst hS hB'
  have hqn : n * q + l ≤ 2063 := by
    have h1 : n * q ≤ 16 * q := Int.mul_le_mul_of_nonneg_right (by omega) (by omega)
    omega
  have hqp : 0 ≤ n * q := Int.mul_nonneg (by omega) (by omega)
  have hqm : n * q ≤ 2048 := by
    have h1 : n * q ≤ 16 * q := Int.mul_le_mul_of_nonneg_right (by omega) (by omega)
    omega
  have HLP : Hid (0 ≤ l) := Lib.hid (by omega)
  have HX : Hid (∀ V, Below W0.heap.size W0 V → PlBox V w.heap.size (S : Int) (B : Int) n l q) := Lib.hid fun V hV => hbx.mono hV
  have HSY : Hid (∀ V : World, Calls Try.prog 37 #[.int .i64 (S : Int), .int .i64 (B : Int)] V fun e w' => e = .returned (.int .i64 ((symT S B : Nat) : Int)) ∧ Below V.heap.size V w') := Lib.hid fun V => bkSymbols_any S B (by omega) (by unfold I64 at hs; omega)
  have hT : symT S B ≤ 9223372036854775807 := by have := symT_le (s := S) (b := B) (by omega); unfold I64 at hs; omega
  have hlt0 := hbx.lt
  obtain ⟨c, hc⟩ : ∃ c : Int, c = if 0 < l then q + 1 else q := ⟨_, rfl⟩
  rw [← hc] at HCNT
  have HD1 : 0 < l ∧ q = 128 → decide (128 < c) = true := fun h => decide_eq_true (by rw [hc, if_pos h.1]; omega)
  have HD2 : ¬ (0 < l ∧ q = 128) → decide (128 < c) = false := fun h => decide_eq_false (by rw [hc]; split <;> omega)
  clear hA hB hC hs hb hn hl hq hW0 hb0 hc
  unfold plV plC
  by_cases hD : 0 < l ∧ q = 128
  · have hP : planC (S : Int) (B : Int) n l q = 2 := by rw [HQ.out, if_pos hD]
    rw [hP]
    have e1 := HD1 hD
    clear hD HD1 HD2
    go_enter Try.func35, Try.ntmps35
    go_wp2_with fail
    rw [← HW0.out]
    refine HCNT.out.mono ?_
    rintro e w1 ⟨rfl, hb1⟩
    have HB1 := Lib.hid (HB0.out.trans (hb1.mono HB0.out.size))
    clear hb1
    go_wp2_with fail
    go_ret
    exact ⟨rfl, HB1.out⟩
  · have e1 := HD2 hD
    have HQ2 : Hid (planC (S : Int) (B : Int) n l q = if n * q + l = (symT S B : Int) then 0 else 2) := Lib.hid (by rw [HQ.out, if_neg hD]; simp)
    clear hD HD1 HD2 HQ
    obtain ⟨r, hr⟩ : ∃ r : Int, r = if n * q + l = (symT S B : Int) then 0 else 2 := ⟨_, rfl⟩
    rw [HQ2.out, ← hr]
    have HR := Lib.hid hr
    clear hr HQ2
    go_enter Try.func35, Try.ntmps35
    go_wp2_with fail
    rw [← HW0.out]
    refine HCNT.out.mono ?_
    rintro e w1 ⟨rfl, hb1⟩
    have HB1 := Lib.hid hb1
    have HSD : Hid (w1.drew.cell? ⟨w.heap.size, 0, none⟩ = some (.int .i64 (S : Int)) ∧ w1.drew.cell? ⟨w.heap.size, 1, none⟩ = some (.int .i64 (B : Int)) ∧ w1.drew.cell? ⟨w.heap.size, 2, none⟩ = some (.int .i64 n) ∧ w1.drew.cell? ⟨w.heap.size, 3, none⟩ = some (.int .i64 l) ∧ w1.drew.cell? ⟨w.heap.size, 4, none⟩ = some (.int .i64 q)) := Lib.hid (HX.out _ hb1).cells
    have HSAT : Hid (∀ V, Below w1.drew.heap.size w1.drew V → V.cell? ⟨w.heap.size, 0, none⟩ = some (.int .i64 (S : Int)) ∧ V.cell? ⟨w.heap.size, 1, none⟩ = some (.int .i64 (B : Int)) ∧ V.cell? ⟨w.heap.size, 2, none⟩ = some (.int .i64 n) ∧ V.cell? ⟨w.heap.size, 3, none⟩ = some (.int .i64 l) ∧ V.cell? ⟨w.heap.size, 4, none⟩ = some (.int .i64 q)) :=
      Lib.hid fun V hV => (HX.out V ((HB1.out.trans (((Below.refl _ w1).drew).mono HB1.out.size)).trans (hV.mono HB1.out.size))).cells
    clear hb1
    go_upto_region 7 with fail
    go_region_held3 (fun w' => w'.cell? ⟨w.heap.size, 0, none⟩ = some (.int .i64 (S : Int)) ∧ w'.cell? ⟨w.heap.size, 1, none⟩ = some (.int .i64 (B : Int)) ∧ w'.cell? ⟨w.heap.size, 2, none⟩ = some (.int .i64 n) ∧ w'.cell? ⟨w.heap.size, 3, none⟩ = some (.int .i64 l) ∧ w'.cell? ⟨w.heap.size, 4, none⟩ = some (.int .i64 q))
      (first | exact HSD.out | exact HSAT.out _ HB3.out | go_keep)
      (first
      | (go_at_call 37; (with_reducible refine (HSY.out _).mono ?_); rintro e w3 ⟨rfl, hb3⟩; have HB3 := Lib.hid hb3; clear hb3))
    all_goals
      have HB4 := Lib.hid (HB0.out.trans ((HB1.out.trans (((Below.refl _ w1).drew.trans HB3.out).mono HB1.out.size)).mono HB0.out.size))
      clear HB3 HSAT HSD
      have hw : IntKind.i64.wrap (IntKind.i64.wrap (n * q) + l) = n * q + l := by rw [IntWalk.i64_in (n * q) (by omega), IntWalk.i64_in _ (by have := HLP.out; omega)]
      by_cases hE : n * q + l = (symT S B : Int)
      · have e2 : (IntKind.i64.wrap (IntKind.i64.wrap (n * q) + l) != (symT S B : Int)) = false := by rw [hw]; simpa using hE
        have hr : r = 0 := by rw [HR.out, if_pos hE]
        clear hE HR hw
        go_wp2
        go_ret
        exact ⟨by rw [hr]; rfl, HB4.out⟩
      · have e2 : (IntKind.i64.wrap (IntKind.i64.wrap (n * q) + l) != (symT S B : Int)) = true := by rw [hw]; simpa using hE
        have hr : r = 2 := by rw [HR.out, if_neg hE]
        clear hE HR hw
        go_wp2
        go_ret
        exact ⟨by rw [hr]; rfl, HB4.out⟩

end Go.Proofs.Ytmihpbdgilmdiaa
end
