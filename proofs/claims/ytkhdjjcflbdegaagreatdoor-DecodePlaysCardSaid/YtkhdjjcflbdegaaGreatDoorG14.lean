import Derived.Test.YtkhdjjcflbdegaaGreatDoorG13

section
/- Package params: Of, and the document's. -/
namespace Go.Proofs.YtkhdjjcflbdegaaGreatDoor
open Go.RowKit Go.Extern.Stop Go.Stop Go.Extern

theorem results_row2 {P : Program} {fn : Func} {p t : Tmp} {ty : TypeId} (h : fn.results = #[.cell p ty, .tmp t]) (tmps : Array Value) (w : World) (g : Nat) (tt : TypeId) (cs : Array Value) (fr : Nat × Nat) (d : TypeDesc)
    (hp : tmps.getD p undef = .pointer (some ⟨g, 0, none⟩)) (hg : w.heap[g]? = some (.cells cs tt fr))
    (hu : P.underlying ty = some d) (hd : (match d with | .struct _ | .array _ _ => true | _ => false) = true) (hi : (P.info? ty).map (·.size) = some cs.size) :
    (results fn tmps).run P w = .ok (.tuple #[.agg cs, tmps.getD t undef]) w := by
  have hp' : tmps[p]?.getD undef = .pointer (some ⟨g, 0, none⟩) := by simpa using hp
  simp [results, h, hp', asAddr, run_loadVar_row w g tt ty cs fr d hg hu hd hi]
theorem results_row1 {P : Program} {fn : Func} {p : Tmp} {ty : TypeId} (h : fn.results = #[.cell p ty]) (tmps : Array Value) (w : World) (g : Nat) (tt : TypeId) (cs : Array Value) (fr : Nat × Nat) (d : TypeDesc)
    (hp : tmps.getD p undef = .pointer (some ⟨g, 0, none⟩)) (hg : w.heap[g]? = some (.cells cs tt fr))
    (hu : P.underlying ty = some d) (hd : (match d with | .struct _ | .array _ _ => true | _ => false) = true) (hi : (P.info? ty).map (·.size) = some cs.size) :
    (results fn tmps).run P w = .ok (.agg cs) w := by
  have hp' : tmps[p]?.getD undef = .pointer (some ⟨g, 0, none⟩) := by simpa using hp
  simp [results, h, hp', asAddr, run_loadVar_row w g tt ty cs fr d hg hu hd hi]

/-- Numbers as a struct. -/
def parC (k s h l p : Int) : Array Value := #[.int .i64 k, .int .i64 s, .int .i64 h, .int .i64 l, .int .i64 p]
def parV (k s h l p : Int) : Value := .agg (parC k s h l p)
def OfBox (W : World) (g : Nat) : Prop := W.heap[g]? = some (.cells (parC 0 0 0 0 0) 32 (0, 0))
theorem OfBox.lt {W : World} {g : Nat} (h : OfBox W g) : g < W.heap.size := (Array.getElem?_eq_some_iff.1 h).1
theorem OfBox.mono {W W' : World} {g : Nat} (h : OfBox W g) (hb : Below W.heap.size W W') : OfBox W' g := (hb.block g h.lt).trans h
theorem OfBox.done {W : World} {g : Nat} (h : OfBox W g) (a b c d e : Value) : (((((W.setCell ⟨g, 0, none⟩ a).setCell ⟨g, 1, none⟩ b).setCell ⟨g, 2, none⟩ c).setCell ⟨g, 3, none⟩ d).setCell ⟨g, 4, none⟩ e).heap[g]? = some (.cells #[a, b, c, d, e] 32 (0, 0)) :=
  heap_setCell_at (heap_setCell_at (heap_setCell_at (heap_setCell_at (heap_setCell_at h))))
theorem OfBox.below {W w : World} {B g : Nat} (hb : Below B w W) (hg : B ≤ g) (a b c d e : Value) : Below B w (((((W.setCell ⟨g, 0, none⟩ a).setCell ⟨g, 1, none⟩ b).setCell ⟨g, 2, none⟩ c).setCell ⟨g, 3, none⟩ d).setCell ⟨g, 4, none⟩ e) :=
  ((((hb.setCell (p := ⟨g, 0, none⟩) hg a).setCell (p := ⟨g, 1, none⟩) hg b).setCell (p := ⟨g, 2, none⟩) hg c).setCell (p := ⟨g, 3, none⟩) hg d).setCell (p := ⟨g, 4, none⟩) hg e

theorem OfBox.err {W : World} {g : Nat} {k : Int} {n : ByteArray} {E : Value} (h : OfBox W g) (he : ErrAns k n W E) (a b c d e : Value) : ErrAns k n (((((W.setCell ⟨g, 0, none⟩ a).setCell ⟨g, 1, none⟩ b).setCell ⟨g, 2, none⟩ c).setCell ⟨g, 3, none⟩ d).setCell ⟨g, 4, none⟩ e) E :=
  errAns_kept2 he fun x s hc => by
    have n1 : x ≠ g := by
      rintro rfl
      rw [cell_of_heap (j := 0) (u := .int .i64 0) h rfl] at hc
      cases hc
    rw [Below.heap_setCell _ _ _ _ n1, Below.heap_setCell _ _ _ _ n1, Below.heap_setCell _ _ _ _ n1, Below.heap_setCell _ _ _ _ n1, Below.heap_setCell _ _ _ _ n1]

def OfSays (k : Nat) (w : World) (e : Ending) (w' : World) : Prop := ∃ s h l p : Nat, e = .returned (.tuple #[parV k s h l p, .nilIface]) ∧ OfP k s h l p ∧ Below w.heap.size w w'
def ROfSays (k : Nat) (w : World) (e : Ending) (w' : World) : Prop := ∃ s h l p : Nat, e = .returned (parV k s h l p) ∧ OfP k s h l p ∧ Below w.heap.size w w'

set_option maxRecDepth 1000000 in
set_option maxHeartbeats 4000000 in
theorem Of_in {w : World} (k : Nat) (hk1 : 1 ≤ k) (hk : k ≤ 128) : Calls Tryz.prog 30 #[.int .i64 (k : Int)] w (OfSays k w) := by
  obtain ⟨w0, hw0, hb0, hbx⟩ : ∃ w0, w0 = w.alloc (.cells #[.int .i64 0, .int .i64 0, .int .i64 0, .int .i64 0, .int .i64 0] 32) ∧ Below w.heap.size w w0 ∧ OfBox w0 w.heap.size := ⟨_, rfl, (Below.refl _ _).alloc (Nat.le_refl _) _, heap_alloc_new w _⟩
  have HW0 := Lib.hid hw0
  have HB0 := Lib.hid hb0
  have HBX := Lib.hid hbx
  have e1 : decide ((k : Int) < 1) = false := decide_eq_false (by omega)
  have e2 : decide ((128 : Int) < (k : Int)) = false := decide_eq_false (by omega)
  have e3 : decide (128 < k) = false := decide_eq_false (by omega)
  clear hw0 hb0 hbx
  go_enter Tryz.func30, Tryz.ntmps30
  go_wp2_with fail
  rw [← HW0.out]
  go_loopw [4] (fun i wr => ∃ x : Nat, i = .int .i64 (x : Int) ∧ 1 ≤ x ∧ x ≤ 17 ∧ (∀ y, 1 ≤ y → y < x → y * (y - 1) < 2 * k) ∧ w0 = wr) (fun i _ => 17 - (intOf i).toNat)
  case atStart => exact ⟨1, rfl, by omega, by omega, fun y h1 h2 => by omega, rfl⟩
  case round =>
    obtain ⟨x, rfl, h1, h17, hx, rfl⟩ := hrel
    have HX := Lib.hid hx
    clear hx
    have hI : (x : Int) * ((x : Int) - 1) = ((x * (x - 1) : Nat) : Int) := by rw [Int.natCast_mul]; congr 1; omega
    have hm : x * (x - 1) ≤ 17 * 16 := Nat.mul_le_mul h17 (by omega)
    have hm1 : (x : Int) * ((x : Int) - 1) ≤ 272 := by rw [hI]; omega
    have hm0 : 0 ≤ (x : Int) * ((x : Int) - 1) := by rw [hI]; omega
    by_cases h : x * (x - 1) < 2 * k
    · have d1 : decide ((x : Int) * ((x : Int) - 1) < 2 * (k : Int)) = true := decide_eq_true (by rw [hI]; omega)
      have hlt : x < 17 := by
        rcases Nat.lt_or_ge x 17 with h' | h'
        · exact h'
        · obtain rfl : x = 17 := by omega
          omega
      have HH := Lib.hid h
      clear hI h hm
      go_wp2
      go_roundw
      case rel => exact ⟨x + 1, by go_num, by omega, by omega, fun y h1 h2 => by
        rcases (by omega : y < x ∨ y = x) with h4 | rfl
        · exact HX.out y h1 h4
        · exact HH.out, trivial⟩
      case measure => simp [intOf]; omega
    · have d1 : decide ((x : Int) * ((x : Int) - 1) < 2 * (k : Int)) = false := decide_eq_false (by rw [hI]; omega)
      have HLX : Hid (LeastX k x) := Lib.hid ⟨h1, Nat.le_of_not_lt h, HX.out⟩
      clear hI h hm HX
      go_wp2_with fail
      refine (prime_any _ (by omega) ⟨by omega, by omega⟩).mono ?_
      rintro e w1 ⟨s, rfl, hs, rfl⟩
      have hs' : LeastP (((k + 99) / 100 + x : Nat) : Int) s := by
        have e : ((k : Int) + 99) / 100 + (x : Int) = (((k + 99) / 100 + x : Nat) : Int) := by omega
        rw [e] at hs; exact hs
      have hs19 : s ≤ 19 := hs'.le p19 (by omega)
      have hs2 : 2 ≤ s := hs'.two
      have HS := Lib.hid hs'
      clear hs hs'
      go_wp2_with fail
      go_loopw [6] (fun i wr => ∃ h : Nat, i = .int .i64 (h : Int) ∧ 1 ≤ h ∧ h ≤ 10 ∧ (∀ j, j < h → ch j ((j + 1) / 2) < k + s) ∧ Below w0.heap.size w0 wr) (fun i _ => 10 - (intOf i).toNat)
      case atStart => exact ⟨1, rfl, by omega, by omega, fun j hj => by
        obtain rfl : j = 0 := by omega
        rw [show ch 0 ((0 + 1) / 2) = 1 from rfl]; omega, Below.refl _ _⟩
      case round =>
        obtain ⟨h, rfl, h1', h10, hx, hbel⟩ := hrel
        have HX := Lib.hid hx
        have HB := Lib.hid hbel
        have hI : ((h : Int) + 1) / 2 = (((h + 1) / 2 : Nat) : Int) := by omega
        have HI := Lib.hid hI
        clear hI hx hbel
        go_wp2_with fail
        rw [HI.out]
        refine (choose_any h ((h + 1) / 2) (by omega) (by omega)).mono ?_
        rintro e w1 ⟨rfl, hb1⟩
        have HB1 := Lib.hid (HB.out.trans (hb1.mono HB.out.size))
        clear hb1 HB
        by_cases hc : ch h ((h + 1) / 2) < k + s
        · have hlt : h < 10 := by
            rcases Nat.lt_or_ge h 10 with h' | h'
            · exact h'
            · obtain rfl : h = 10 := by omega
              rw [show (10 + 1) / 2 = 5 from rfl, ch105] at hc
              omega
          have HH := Lib.hid hc
          obtain ⟨y, hy⟩ : ∃ y, ch h ((h + 1) / 2) = y := ⟨_, rfl⟩
          rw [hy] at hc ⊢
          have d1 : decide ((y : Int) < (k : Int) + (s : Int)) = true := decide_eq_true (by omega)
          clear hy hc
          go_wp2
          go_roundw
          case rel => exact ⟨h + 1, by go_num, by omega, by omega, fun j h1 => by
            rcases (by omega : j < h ∨ j = h) with h4 | rfl
            · exact HX.out j h4
            · exact HH.out, HB1.out⟩
          case measure => simp [intOf]; omega
        · have HLH : Hid (LeastH (k + s) h) := Lib.hid ⟨Nat.le_of_not_lt hc, HX.out⟩
          obtain ⟨y, hy⟩ : ∃ y, ch h ((h + 1) / 2) = y := ⟨_, rfl⟩
          rw [hy] at hc ⊢
          have d1 : decide ((y : Int) < (k : Int) + (s : Int)) = false := decide_eq_false (by omega)
          clear hy hc HX
          go_wp2_with fail
          refine (prime_any _ (by omega) ⟨by omega, by omega⟩).mono ?_
          rintro e w1 ⟨p, rfl, hp, rfl⟩
          have HP : Hid (LeastP ((k + s + h : Nat) : Int) p) := Lib.hid (by
            have e : (k : Int) + (s : Int) + (h : Int) = ((k + s + h : Nat) : Int) := by omega
            rw [e] at hp; exact hp)
          clear hp
          have hbx := HBX.out.mono HB1.out
          have c0 := cell_of_heap (j := 0) (u := .int .i64 0) hbx rfl
          have c1 := cell_of_heap (j := 1) (u := .int .i64 0) hbx rfl
          have c2 := cell_of_heap (j := 2) (u := .int .i64 0) hbx rfl
          have c3 := cell_of_heap (j := 3) (u := .int .i64 0) hbx rfl
          have c4 := cell_of_heap (j := 4) (u := .int .i64 0) hbx rfl
          have f0 := frozen_of_heap (j := 0) hbx
          have f1 := frozen_of_heap (j := 1) hbx
          have f2 := frozen_of_heap (j := 2) hbx
          have f3 := frozen_of_heap (j := 3) hbx
          have f4 := frozen_of_heap (j := 4) hbx
          have HBX1 := Lib.hid hbx
          clear hbx
          go_wp2
          refine bodyPost_ret (results_row2 rfl _ _ w.heap.size 32 _ (0, 0) _ rfl (HBX1.out.done _ _ _ _ _) Tryz.underlying32 rfl (by kernel_rfl)) rfl ?_
          exact ⟨s, h, k + s + h, p, rfl, ⟨⟨x, HLX.out, HS.out⟩, HLH.out, rfl, HP.out⟩, OfBox.below (HB0.out.trans (HB1.out.mono HB0.out.size)) (Nat.le_refl _) _ _ _ _ _⟩

set_option maxRecDepth 1000000 in
theorem Of_out {w : World} (k : Int) (hk : k < 1 ∨ 128 < k) : Calls Tryz.prog 30 #[.int .i64 k] w (NoSays 1 nameOf (parV 0 0 0 0 0) w) := by
  obtain ⟨w0, hw0, hb0, hbx⟩ : ∃ w0, w0 = w.alloc (.cells #[.int .i64 0, .int .i64 0, .int .i64 0, .int .i64 0, .int .i64 0] 32) ∧ Below w.heap.size w w0 ∧ OfBox w0 w.heap.size := ⟨_, rfl, (Below.refl _ _).alloc (Nat.le_refl _) _, heap_alloc_new w _⟩
  have HW0 := Lib.hid hw0
  have HB0 := Lib.hid hb0
  have HBX := Lib.hid hbx
  clear hw0 hb0 hbx
  rcases hk with h | h
  · have d1 : decide (k < 1) = true := decide_eq_true h
    go_enter Tryz.func30, Tryz.ntmps30
    go_wp2_with fail
    rw [← HW0.out]
    refine (New_ans _ 1 (by decide) _).mono ?_
    rintro e w1 ⟨E1, rfl, hc1, hb1⟩
    have hbx := HBX.out.mono hb1
    have c0 := cell_of_heap (j := 0) (u := .int .i64 0) hbx rfl
    have c1 := cell_of_heap (j := 1) (u := .int .i64 0) hbx rfl
    have c2 := cell_of_heap (j := 2) (u := .int .i64 0) hbx rfl
    have c3 := cell_of_heap (j := 3) (u := .int .i64 0) hbx rfl
    have c4 := cell_of_heap (j := 4) (u := .int .i64 0) hbx rfl
    have f0 := frozen_of_heap (j := 0) hbx
    have f1 := frozen_of_heap (j := 1) hbx
    have f2 := frozen_of_heap (j := 2) hbx
    have f3 := frozen_of_heap (j := 3) hbx
    have f4 := frozen_of_heap (j := 4) hbx
    have HBX1 := Lib.hid hbx
    have HC1 := Lib.hid hc1
    have HB1 := Lib.hid (HB0.out.trans (hb1.mono HB0.out.size))
    obtain ⟨u, x, rfl⟩ := hc1.some (by decide)
    clear hc1 hb1 hbx
    go_wp2
    refine bodyPost_ret (results_row2 rfl _ _ w.heap.size 32 _ (0, 0) _ rfl (HBX1.out.done _ _ _ _ _) Tryz.underlying32 rfl (by kernel_rfl)) rfl ?_
    exact ⟨_, rfl, HBX1.out.err HC1.out _ _ _ _ _, OfBox.below HB1.out (Nat.le_refl _) _ _ _ _ _⟩
  · have d1 : decide (k < 1) = false := decide_eq_false (by omega)
    have d2 : decide ((128 : Int) < k) = true := decide_eq_true h
    go_enter Tryz.func30, Tryz.ntmps30
    go_wp2_with fail
    rw [← HW0.out]
    refine (New_ans _ 1 (by decide) _).mono ?_
    rintro e w1 ⟨E1, rfl, hc1, hb1⟩
    have hbx := HBX.out.mono hb1
    have c0 := cell_of_heap (j := 0) (u := .int .i64 0) hbx rfl
    have c1 := cell_of_heap (j := 1) (u := .int .i64 0) hbx rfl
    have c2 := cell_of_heap (j := 2) (u := .int .i64 0) hbx rfl
    have c3 := cell_of_heap (j := 3) (u := .int .i64 0) hbx rfl
    have c4 := cell_of_heap (j := 4) (u := .int .i64 0) hbx rfl
    have f0 := frozen_of_heap (j := 0) hbx
    have f1 := frozen_of_heap (j := 1) hbx
    have f2 := frozen_of_heap (j := 2) hbx
    have f3 := frozen_of_heap (j := 3) hbx
    have f4 := frozen_of_heap (j := 4) hbx
    have HBX1 := Lib.hid hbx
    have HC1 := Lib.hid hc1
    have HB1 := Lib.hid (HB0.out.trans (hb1.mono HB0.out.size))
    obtain ⟨u, x, rfl⟩ := hc1.some (by decide)
    clear hc1 hb1 hbx
    go_wp2
    refine bodyPost_ret (results_row2 rfl _ _ w.heap.size 32 _ (0, 0) _ rfl (HBX1.out.done _ _ _ _ _) Tryz.underlying32 rfl (by kernel_rfl)) rfl ?_
    exact ⟨_, rfl, HBX1.out.err HC1.out _ _ _ _ _, OfBox.below HB1.out (Nat.le_refl _) _ _ _ _ _⟩

set_option maxRecDepth 1000000 in
set_option maxHeartbeats 4000000 in
theorem rOf_any {w : World} (k : Nat) (hk1 : 1 ≤ k) (hk : k ≤ 128) : Calls Tryz.prog 29 #[.int .i64 (k : Int)] w (ROfSays k w) := by
  obtain ⟨w0, hw0, hb0, hbx⟩ : ∃ w0, w0 = w.alloc (.cells #[.int .i64 0, .int .i64 0, .int .i64 0, .int .i64 0, .int .i64 0] 32) ∧ Below w.heap.size w w0 ∧ OfBox w0 w.heap.size := ⟨_, rfl, (Below.refl _ _).alloc (Nat.le_refl _) _, heap_alloc_new w _⟩
  have HW0 := Lib.hid hw0
  have HB0 := Lib.hid hb0
  have c0 := cell_of_heap (j := 0) (u := .int .i64 0) hbx rfl
  have c1 := cell_of_heap (j := 1) (u := .int .i64 0) hbx rfl
  have c2 := cell_of_heap (j := 2) (u := .int .i64 0) hbx rfl
  have c3 := cell_of_heap (j := 3) (u := .int .i64 0) hbx rfl
  have c4 := cell_of_heap (j := 4) (u := .int .i64 0) hbx rfl
  have f0 := frozen_of_heap (j := 0) hbx
  have f1 := frozen_of_heap (j := 1) hbx
  have f2 := frozen_of_heap (j := 2) hbx
  have f3 := frozen_of_heap (j := 3) hbx
  have f4 := frozen_of_heap (j := 4) hbx
  have HBX := Lib.hid hbx
  clear hw0 hb0 hbx
  obtain ⟨U, hU, hU2⟩ : ∃ U : Nat, U = (k + 99) / 100 ∧ U ≤ 2 := ⟨_, rfl, by omega⟩
  have HU := Lib.hid hU
  have HBC := Lib.hid c0
  by_cases hm : k % 100 = 0
  · have hm0 : (0 : Int) = (k : Int) % 100 := by omega
    have e1 : decide ((0 : Int) < (k : Int) % 100) = false := decide_eq_false (by omega)
    have e2 : decide (0 < k % 100) = false := decide_eq_false (by omega)
    have hUI : (k : Int) / 100 = (U : Int) := by omega
    have HUI := Lib.hid hUI
    clear hU hUI hm hm0
    go_enter Tryz.func29, Tryz.ntmps29
    go_wp2_with fail
    rw [← HW0.out]
    refine (rX_any k hk).mono ?_
    rintro e w1 ⟨x, rfl, hx, rfl⟩
    rw [HUI.out]
    have hx17 := hx.le hk
    have HX := Lib.hid hx
    clear hx
    go_wp2_with fail
    refine (rPrime_any _ (by omega) ⟨by omega, by omega⟩).mono ?_
    rintro e w1 ⟨s, rfl, hs, rfl⟩
    have hs' : LeastP (((k + 99) / 100 + x : Nat) : Int) s := by
      have e : (U : Int) + (x : Int) = (((k + 99) / 100 + x : Nat) : Int) := by have := HU.out; omega
      rw [e] at hs; exact hs
    have hs19 : s ≤ 19 := hs'.le p19 (by have := HU.out; omega)
    have HS := Lib.hid hs'
    have hks : (k : Int) + (s : Int) = ((k + s : Nat) : Int) := by omega
    have HKS := Lib.hid hks
    clear hs hs' hks
    go_wp2_with fail
    rw [HKS.out]
    refine (rH_any (k + s) (by omega)).mono ?_
    rintro e w1 ⟨h, rfl, hh, rfl⟩
    have hh10 := hh.le (by omega)
    have HH := Lib.hid hh
    clear hh
    go_wp2_with fail
    refine (rPrime_any _ (by omega) ⟨by omega, by omega⟩).mono ?_
    rintro e w1 ⟨p, rfl, hp, rfl⟩
    have HP : Hid (LeastP ((k + s + h : Nat) : Int) p) := Lib.hid (by
      have e : (k : Int) + (s : Int) + (h : Int) = ((k + s + h : Nat) : Int) := by omega
      rw [e] at hp; exact hp)
    clear hp
    go_wp2
    refine bodyPost_ret (results_row1 rfl _ _ w.heap.size 32 _ (0, 0) _ rfl (HBX.out.done _ _ _ _ _) Tryz.underlying32 rfl (by kernel_rfl)) rfl ?_
    exact ⟨s, h, k + s + h, p, rfl, ⟨⟨x, HX.out, HS.out⟩, HH.out, rfl, HP.out⟩, OfBox.below HB0.out (Nat.le_refl _) _ _ _ _ _⟩
  · have e1 : decide ((0 : Int) < (k : Int) % 100) = true := decide_eq_true (by omega)
    have e2 : decide (0 < k % 100) = true := decide_eq_true (by omega)
    have hUI : (k : Int) / 100 + 1 = (U : Int) := by omega
    have HUI := Lib.hid hUI
    clear hU hUI hm
    go_enter Tryz.func29, Tryz.ntmps29
    go_wp2_with fail
    rw [← HW0.out]
    refine (rX_any k hk).mono ?_
    rintro e w1 ⟨x, rfl, hx, rfl⟩
    rw [HUI.out]
    have hx17 := hx.le hk
    have HX := Lib.hid hx
    clear hx
    go_wp2_with fail
    refine (rPrime_any _ (by omega) ⟨by omega, by omega⟩).mono ?_
    rintro e w1 ⟨s, rfl, hs, rfl⟩
    have hs' : LeastP (((k + 99) / 100 + x : Nat) : Int) s := by
      have e : (U : Int) + (x : Int) = (((k + 99) / 100 + x : Nat) : Int) := by have := HU.out; omega
      rw [e] at hs; exact hs
    have hs19 : s ≤ 19 := hs'.le p19 (by have := HU.out; omega)
    have HS := Lib.hid hs'
    have hks : (k : Int) + (s : Int) = ((k + s : Nat) : Int) := by omega
    have HKS := Lib.hid hks
    clear hs hs' hks
    go_wp2_with fail
    rw [HKS.out]
    refine (rH_any (k + s) (by omega)).mono ?_
    rintro e w1 ⟨h, rfl, hh, rfl⟩
    have hh10 := hh.le (by omega)
    have HH := Lib.hid hh
    clear hh
    go_wp2_with fail
    refine (rPrime_any _ (by omega) ⟨by omega, by omega⟩).mono ?_
    rintro e w1 ⟨p, rfl, hp, rfl⟩
    have HP : Hid (LeastP ((k + s + h : Nat) : Int) p) := Lib.hid (by
      have e : (k : Int) + (s : Int) + (h : Int) = ((k + s + h : Nat) : Int) := by omega
      rw [e] at hp; exact hp)
    clear hp
    go_wp2
    refine bodyPost_ret (results_row1 rfl _ _ w.heap.size 32 _ (0, 0) _ rfl (HBX.out.done _ _ _ _ _) Tryz.underlying32 rfl (by kernel_rfl)) rfl ?_
    exact ⟨s, h, k + s + h, p, rfl, ⟨⟨x, HX.out, HS.out⟩, HH.out, rfl, HP.out⟩, OfBox.below HB0.out (Nat.le_refl _) _ _ _ _ _⟩
end Go.Proofs.YtkhdjjcflbdegaaGreatDoor
end

section
/- Numbers of a block in a block of memory of their own (was in Law08). -/
namespace Go.Proofs.YtkhdjjcflbdegaaGreatDoor
open Go.RowKit Go.Extern.Stop Go.Stop Go.Extern

/-- Numbers in a block of their own. -/
def ParBox (W : World) (g : Nat) (k s h l p : Int) : Prop := W.heap[g]? = some (.cells (parC k s h l p) 32 (0, 0))
theorem ParBox.lt {W : World} {g : Nat} {k s h l p : Int} (b : ParBox W g k s h l p) : g < W.heap.size := (Array.getElem?_eq_some_iff.1 b).1
theorem ParBox.mono {W W' : World} {g : Nat} {k s h l p : Int} (b : ParBox W g k s h l p) (hb : Below W.heap.size W W') : ParBox W' g k s h l p := (hb.block g b.lt).trans b
theorem ParBox.cells {W : World} {g : Nat} {k s h l p : Int} (b : ParBox W g k s h l p) :
    W.cell? ⟨g, 0, none⟩ = some (.int .i64 k) ∧ W.cell? ⟨g, 1, none⟩ = some (.int .i64 s) ∧ W.cell? ⟨g, 2, none⟩ = some (.int .i64 h) ∧ W.cell? ⟨g, 3, none⟩ = some (.int .i64 l) ∧ W.cell? ⟨g, 4, none⟩ = some (.int .i64 p) :=
  ⟨cell_of_heap b rfl, cell_of_heap b rfl, cell_of_heap b rfl, cell_of_heap b rfl, cell_of_heap b rfl⟩
theorem par_laid (w : World) (k s h l p : Int) : ∃ W, W = w.alloc (.cells #[.int .i64 k, .int .i64 s, .int .i64 h, .int .i64 l, .int .i64 p] 32) ∧ Below w.heap.size w W ∧ ParBox W w.heap.size k s h l p :=
  ⟨_, rfl, (Below.refl _ _).alloc (Nat.le_refl _) _, heap_alloc_new w _⟩

end Go.Proofs.YtkhdjjcflbdegaaGreatDoor
end
