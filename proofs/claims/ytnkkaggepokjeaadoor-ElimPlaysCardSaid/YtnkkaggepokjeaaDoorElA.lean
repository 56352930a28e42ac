/- Package elim: formed, over, Rank, Clashed, Whole; slices.Clone; (equation).clone. -/
import Derived.Test.YtnkkaggepokjeaaDoorElMem
import Derived.Test.YtnkkaggepokjeaaDoorSyErr
import Derived.Test.YtnkkaggepokjeaaDoorSyMath
import Derived.Test.YtnkkaggepokjeaaDoorAppend
import Derived.Lib.SliceRun
import Derived.Deep.AppendLies
import Derived.Deep.RegionLaw
import Derived.Laws.Rows
namespace Go.Proofs.YtnkkaggepokjeaaDoor
open Go.RowKit Go.Extern.Stop Go.Stop Go.Extern

theorem eshr_zero (x b : Nat) : (((x : Int) / 2 ^ b) == 0) = decide (x / 2 ^ b = 0) := by
  have e : ((x : Int) / 2 ^ b) = ((x / 2 ^ b : Nat) : Int) := by simp
  rw [e]
  by_cases h : x / 2 ^ b = 0
  · rw [h]; rfl
  · rw [decide_eq_false h]
    simp only [beq_eq_false_iff_ne, ne_eq]
    omega

set_option maxRecDepth 1000000 in
theorem eformed_any {w : World} (v : Value) (r : List Nat) (n : Nat) (h : ListAt wordV w v r) (hw : Word r) (hn : n ≤ 4096) :
    Calls Tryd.prog 34 #[v, .int .i64 (n : Int)] w fun e w' => e = .returned (.bool (wholeB n r)) ∧ w = w' := by
  have hlen := h.len
  have HS := Lib.hid (sizeI_of hn)
  have hK := kOf_le hn
  obtain ⟨a, cap, rfl, hcap, -, hcell⟩ := h
  by_cases hl : r.length = kOf n
  · have hwl := whole_last hw hl
    by_cases h0 : n % 64 = 0
    · have HR : Hid (wholeB n r = true) := Lib.hid (by rw [hwl, decide_eq_true h0]; rfl)
      have hb : ((r.length : Int) == (kOf n : Int)) = true := by simp; omega
      have hb2 : ((r.length : Int) != (kOf n : Int)) = false := by simp; omega
      have hm : ((n : Int) % 64 == 0) = true := by simp; omega
      clear hcell hw hwl hl h0
      generalize wholeB n r = R at *
      generalize kOf n = K at *
      go_enter Tryd.func34, Tryd.ntmps34
      go_wp2_with fail
      refine (Size_any (n : Int) (by omega)).mono ?_
      rintro e w1 ⟨rfl, rfl⟩
      rw [HS.out]
      go_wp2
      go_ret
      exact ⟨by rw [HR.out]; rfl, rfl⟩
    · have hlt : n / 64 < r.length := by unfold kOf at hl; omega
      obtain ⟨b, off, rfl, hc⟩ := hcell (by omega)
      have hx := hc (n / 64) hlt
      have e : r[n / 64] = r.getD (n / 64) 0 := by simp [hlt]
      rw [e] at hx
      have hxlt := hw.getD (n / 64)
      have HR : Hid (wholeB n r = decide (r.getD (n / 64) 0 / 2 ^ (n % 64) = 0)) := Lib.hid (by rw [hwl, decide_eq_false h0]; rfl)
      have hb : ((r.length : Int) == (kOf n : Int)) = true := by simp; omega
      have hb2 : ((r.length : Int) != (kOf n : Int)) = false := by simp; omega
      have hm : ((n : Int) % 64 == 0) = false := by simp; omega
      have hlt2 : (n : Int) / 64 < (r.length : Int) := by omega
      have hy : w.cell? ⟨b, off + n / 64, none⟩ = some (.int .u64 ((r.getD (n / 64) 0 : Nat) : Int)) := hx
      clear hcell hw hwl h0 hx hc e
      generalize r.getD (n / 64) 0 = x at *
      have hz := eshr_zero x (n % 64)
      generalize hd : decide (x / 2 ^ (n % 64) = 0) = D at *
      clear hd
      generalize wholeB n r = R at *
      generalize kOf n = K at *
      clear hl
      cases D with
      | true =>
        go_enter Tryd.func34, Tryd.ntmps34
        go_wp2_with fail
        refine (Size_any (n : Int) (by omega)).mono ?_
        rintro e w1 ⟨rfl, rfl⟩
        rw [HS.out]
        go_wp2
        go_ret
        exact ⟨by rw [HR.out]; rfl, rfl⟩
      | false =>
        go_enter Tryd.func34, Tryd.ntmps34
        go_wp2_with fail
        refine (Size_any (n : Int) (by omega)).mono ?_
        rintro e w1 ⟨rfl, rfl⟩
        rw [HS.out]
        go_wp2
        go_ret
        exact ⟨by rw [HR.out]; rfl, rfl⟩
  · have HR := Lib.hid (wholeB_len hl)
    have hb : ((r.length : Int) == (kOf n : Int)) = false := by simp; omega
    have hb2 : ((r.length : Int) != (kOf n : Int)) = true := by simp; omega
    clear hl hcell hw
    generalize wholeB n r = R at *
    generalize kOf n = K at *
    go_enter Tryd.func34, Tryd.ntmps34
    go_wp2_with fail
    refine (Size_any (n : Int) (by omega)).mono ?_
    rintro e w1 ⟨rfl, rfl⟩
    rw [HS.out]
    go_wp2
    go_ret
    exact ⟨by rw [HR.out]; rfl, rfl⟩

/-! ### slices.Clone -/

set_option maxRecDepth 1000000 in
theorem wClone_any {w : World} (v : Value) (r : List Nat) (h : ListAt wordV w v r) (hl : r.length ≤ 100000) :
    Calls Tryd.prog 54 #[v] w fun e w' => ∃ v', e = .returned v' ∧ w'.ownsRow w.heap.size 47 1 v' r.length (r.map wordV) ∧ (v = nilS → v' = nilS) ∧ Below w.heap.size w w' := by
  obtain ⟨i0, hi, hz0, hz1, hz2⟩ := info_parts info_u64
  have HL := Lib.hid h
  obtain ⟨a, cap, rfl, -, -, hc⟩ := h
  cases a with
  | none =>
    have hr : r = [] := by
      apply List.eq_nil_of_length_eq_zero
      apply Nat.eq_zero_of_not_pos
      intro hp
      obtain ⟨b, off, e, _⟩ := hc hp
      cases e
    subst hr
    clear hc
    have hq : (binOp .eql 38 (.slice none 0 cap) (.slice none 0 0)).run Tryd.prog w = .ok (.bool true) w := Lib.run_eql_slice_nil w 38 47 none 0 cap 0 0 Tryd.underlying38
    go_enter Tryd.func54, Tryd.ntmps54
    go_wp2
    go_ret
    exact ⟨_, rfl, World.ownsRow_nil _ _ _ _, fun _ => rfl, Below.refl _ _⟩
  | some ad =>
    clear hc
    have HB0 := Lib.hid ((Below.refl w.heap.size w).alloc (Nat.le_refl _) (.cells #[] 47))
    have HO0 := Lib.hid (World.ownsRow_made (base := w.heap.size) (e := 47) (size := 1) w #[] 0 (Nat.le_refl _) (by decide) rfl)
    have HLA := Lib.hid (HL.out.mono HB0.out)
    have hq : (binOp .eql 38 (.slice (some ad) r.length cap) (.slice none 0 0)).run Tryd.prog w = .ok (.bool false) w := Lib.run_eql_slice_nil w 38 47 (some ad) r.length cap 0 0 Tryd.underlying38
    go_enter Tryd.func54, Tryd.ntmps54
    go_wp2_with (at_builtin; refine wpList_append_of (f := wordV) _ rfl (.tmp 5) (.tmp 6) 38 rfl w.heap.size 47 i0 (.int .u64 0) 8 Tryd.underlying38 hi hz0 hz1 hz2 rfl _ 0 [] rfl HO0.out _ r rfl HLA.out (fun y _ => rfl) (by unfold maxLen; omega) (by omega) (by simp) ?_; intro o w1 hown1 hgrow1; have hb1 := Lib.hid (HB0.out.grown hgrow1 (by simp) (fun k hk => (HO0.out.lt k hk).1)); rw [Nat.zero_add, List.nil_append] at hown1; have ho1 := Lib.hid hown1; clear hown1 hgrow1)
    go_ret
    exact ⟨_, rfl, ho1.out, (by intro h; cases h), hb1.out⟩

set_option maxRecDepth 1000000 in
theorem bClone_any {w : World} (v : Value) (r : List Nat) (h : ListAt byteV w v r) (hl : r.length ≤ 100000) :
    Calls Tryd.prog 55 #[v] w fun e w' => ∃ v', e = .returned v' ∧ w'.ownsRow w.heap.size 5 1 v' r.length (r.map byteV) ∧ (v = nilS → v' = nilS) ∧ Below w.heap.size w w' := by
  obtain ⟨i0, hi, hz0, hz1, hz2⟩ := info_parts info_u8
  have HL := Lib.hid h
  obtain ⟨a, cap, rfl, -, -, hc⟩ := h
  cases a with
  | none =>
    have hr : r = [] := by
      apply List.eq_nil_of_length_eq_zero
      apply Nat.eq_zero_of_not_pos
      intro hp
      obtain ⟨b, off, e, _⟩ := hc hp
      cases e
    subst hr
    clear hc
    have hq : (binOp .eql 39 (.slice none 0 cap) (.slice none 0 0)).run Tryd.prog w = .ok (.bool true) w := Lib.run_eql_slice_nil w 39 5 none 0 cap 0 0 Tryd.underlying39
    go_enter Tryd.func55, Tryd.ntmps55
    go_wp2
    go_ret
    exact ⟨_, rfl, World.ownsRow_nil _ _ _ _, fun _ => rfl, Below.refl _ _⟩
  | some ad =>
    clear hc
    have HB0 := Lib.hid ((Below.refl w.heap.size w).alloc (Nat.le_refl _) (.cells #[] 5))
    have HO0 := Lib.hid (World.ownsRow_made (base := w.heap.size) (e := 5) (size := 1) w #[] 0 (Nat.le_refl _) (by decide) rfl)
    have HLA := Lib.hid (HL.out.mono HB0.out)
    have hq : (binOp .eql 39 (.slice (some ad) r.length cap) (.slice none 0 0)).run Tryd.prog w = .ok (.bool false) w := Lib.run_eql_slice_nil w 39 5 (some ad) r.length cap 0 0 Tryd.underlying39
    go_enter Tryd.func55, Tryd.ntmps55
    go_wp2_with (at_builtin; refine wpList_append_of (f := byteV) _ rfl (.tmp 5) (.tmp 6) 39 rfl w.heap.size 5 i0 (.int .u8 0) 1 Tryd.underlying39 hi hz0 hz1 hz2 rfl _ 0 [] rfl HO0.out _ r rfl HLA.out (fun y _ => rfl) (by unfold maxLen; omega) (by omega) (by simp) ?_; intro o w1 hown1 hgrow1; have hb1 := Lib.hid (HB0.out.grown hgrow1 (by simp) (fun k hk => (HO0.out.lt k hk).1)); rw [Nat.zero_add, List.nil_append] at hown1; have ho1 := Lib.hid hown1; clear hown1 hgrow1)
    go_ret
    exact ⟨_, rfl, ho1.out, (by intro h; cases h), hb1.out⟩


/-! ### what a system tells of itself -/
abbrev sysP (b : Nat) : Value := .pointer (some ⟨b, 0, none⟩)
abbrev nilP : Value := .pointer none

theorem over_nil {w : World} : Calls Tryd.prog 33 #[nilP] w fun e w' => e = .returned (.bool true) ∧ w = w' := by
  go_enter Tryd.func33, Tryd.ntmps33
  go_wp2
  go_ret
  exact ⟨rfl, rfl⟩
theorem over_any {w : World} (b : Nat) (cl : Bool) (h : w.cell? ⟨b, 4, none⟩ = some (.bool cl)) : Calls Tryd.prog 33 #[sysP b] w fun e w' => e = .returned (.bool cl) ∧ w = w' := by
  go_enter Tryd.func33, Tryd.ntmps33
  go_wp2
  go_ret
  exact ⟨rfl, rfl⟩
theorem Rank_nil {w : World} : Calls Tryd.prog 17 #[nilP] w fun e w' => e = .returned (.int .i64 0) ∧ w = w' := by
  go_enter Tryd.func17, Tryd.ntmps17
  go_wp2
  go_ret
  exact ⟨rfl, rfl⟩
theorem Rank_any {w : World} (b r : Nat) (h : w.cell? ⟨b, 3, none⟩ = some (.int .i64 (r : Int))) : Calls Tryd.prog 17 #[sysP b] w fun e w' => e = .returned (.int .i64 (r : Int)) ∧ w = w' := by
  go_enter Tryd.func17, Tryd.ntmps17
  go_wp2
  go_ret
  exact ⟨rfl, rfl⟩
theorem Clashed_nil {w : World} : Calls Tryd.prog 26 #[nilP] w fun e w' => e = .returned (.bool false) ∧ w = w' := by
  go_enter Tryd.func26, Tryd.ntmps26
  go_wp2
  go_ret
  exact ⟨rfl, rfl⟩
theorem Clashed_any {w : World} (b : Nat) (cl : Bool) (h : w.cell? ⟨b, 4, none⟩ = some (.bool cl)) : Calls Tryd.prog 26 #[sysP b] w fun e w' => e = .returned (.bool cl) ∧ w = w' := by
  go_enter Tryd.func26, Tryd.ntmps26
  go_wp2
  go_ret
  exact ⟨rfl, rfl⟩
theorem below_drawn {w : World} (n : Nat) : Below w.heap.size w (w.drewN n) := below_draws (Below.refl _ _) n
theorem elWhole_nil {w : World} : Calls Tryd.prog 24 #[nilP] w fun e w' => e = .returned (.bool false) ∧ Below w.heap.size w w' := by
  have HCall : Hid (∀ nd, Calls Tryd.prog 33 #[nilP] (w.drewN nd) fun e w' => e = .returned (.bool true) ∧ w' = w.drewN nd) := Lib.hid fun nd => over_nil.mono (by rintro e w' ⟨rfl, rfl⟩; exact ⟨rfl, rfl⟩)
  go_enter Tryd.func24, Tryd.ntmps24
  go_wp2_with fail
  go_quiet (exact Calls.quiet_of_same (HCall.out _))
  go_wp2
  go_ret
  exact ⟨rfl, below_drawn _⟩
theorem elWhole_any {w : World} (b n r : Nat) (cl : Bool) (h0 : w.cell? ⟨b, 0, none⟩ = some (.int .i64 (n : Int))) (h3 : w.cell? ⟨b, 3, none⟩ = some (.int .i64 (r : Int))) (h4 : w.cell? ⟨b, 4, none⟩ = some (.bool cl)) :
    Calls Tryd.prog 24 #[sysP b] w fun e w' => e = .returned (.bool (!cl && decide (r = n))) ∧ Below w.heap.size w w' := by
  have HCall : Hid (∀ nd, Calls Tryd.prog 33 #[sysP b] (w.drewN nd) fun e w' => e = .returned (.bool cl) ∧ w' = w.drewN nd) := Lib.hid fun nd => (over_any b cl (((below_drawn nd).cell (p := ⟨b, 4, none⟩) (World.block_lt_of_cell? w _ h4)).trans h4)).mono (by rintro e w' ⟨rfl, rfl⟩; exact ⟨rfl, rfl⟩)
  have he : ((r : Int) == (n : Int)) = decide (r = n) := by
    by_cases e : r = n
    · simp [e]
    · rw [decide_eq_false e]; simp; omega
  have HE := Lib.hid he
  cases cl with
  | true =>
    clear he
    go_enter Tryd.func24, Tryd.ntmps24
    go_wp2_with fail
    go_quiet (exact Calls.quiet_of_same (HCall.out _))
    go_wp2
    go_ret
    exact ⟨rfl, below_drawn _⟩
  | false =>
    generalize decide (r = n) = D at *
    go_enter Tryd.func24, Tryd.ntmps24
    go_wp2_with fail
    go_quiet (exact Calls.quiet_of_same (HCall.out _))
    go_wp2
    go_ret
    exact ⟨by simp, below_drawn _⟩

/-! ### (equation).clone -/
theorem eq_laid (w : World) (r s : Value) : ∃ w0, w0 = (w.alloc (.cells #[r, s] 82)).alloc (.cells #[nilS, nilS] 82) ∧ Below w.heap.size w w0 ∧ w0.heap.size = w.heap.size + 2 ∧
    w0.cell? ⟨w.heap.size, 0, none⟩ = some r ∧ w0.cell? ⟨w.heap.size, 1, none⟩ = some s ∧ w0.heap[w.heap.size + 1]? = some (.cells #[nilS, nilS] 82 (0, 0)) := by
  have h1 : (w.alloc (.cells #[r, s] 82)).heap[w.heap.size]? = some (.cells #[r, s] 82 (0, 0)) := heap_alloc_new w _
  have hz : (w.alloc (.cells #[r, s] 82)).heap.size = w.heap.size + 1 := World.size_alloc _ _
  have h2 : ((w.alloc (.cells #[r, s] 82)).alloc (.cells #[nilS, nilS] 82)).heap[w.heap.size]? = some (.cells #[r, s] 82 (0, 0)) := by
    rw [Below.heap_alloc _ _ _ (by omega)]; exact h1
  refine ⟨_, rfl, ((Below.refl _ _).alloc (Nat.le_refl _) _).alloc (by omega) _, by rw [World.size_alloc, hz], cell_of_heap h2 rfl, cell_of_heap h2 rfl, ?_⟩
  have := heap_alloc_new (w.alloc (.cells #[r, s] 82)) (.cells #[nilS, nilS] 82)
  rwa [hz] at this

set_option maxRecDepth 1000000 in
set_option maxHeartbeats 1000000 in
theorem eqClone_any {w : World} (vr vs : Value) (r s : List Nat) (h1 : ListAt wordV w vr r) (h2 : ListAt byteV w vs s) (hl : r.length ≤ 100000) (hl2 : s.length ≤ 100000) :
    Calls Tryd.prog 30 #[.agg #[vr, vs]] w fun e w' => ∃ v1 v2, e = .returned (.agg #[v1, v2]) ∧ w'.ownsRow w.heap.size 47 1 v1 r.length (r.map wordV) ∧ w'.ownsRow w.heap.size 5 1 v2 s.length (s.map byteV) ∧
      (vr = nilS → v1 = nilS) ∧ (vs = nilS → v2 = nilS) ∧ Below w.heap.size w w' := by
  obtain ⟨w0, hw0, hb0, hs0, hc1, hc2, hres⟩ := eq_laid w vr vs
  have HB0 := Lib.hid hb0
  have HW0 := Lib.hid hw0
  have HRES := Lib.hid hres
  have HR := Lib.hid (h1.mono hb0)
  have HS := Lib.hid (h2.mono hb0)
  clear hb0 hw0 hres h1 h2
  have hbd : Below w0.heap.size w0 w0.drew := (Below.refl _ _).drew
  have HRD := Lib.hid (HR.out.mono hbd)
  have HSD := Lib.hid (HS.out.mono hbd)
  have HC2 : Hid (w0.drew.cell? ⟨w.heap.size, 1, none⟩ = some vs) := Lib.hid hc2
  have HRESD : Hid (w0.drew.heap[w.heap.size + 1]? = some (.cells #[nilS, nilS] 82 (0, 0))) := Lib.hid HRES.out
  have HBD := Lib.hid HB0.out.drew
  have hsz : w0.drew.heap.size = w.heap.size + 2 := hs0
  clear hbd
  go_enter Tryd.func30, Tryd.ntmps30
  go_wp2_with fail
  rw [← HW0.out]
  go_region_law (first
    | (go_simp; go_at_call 54; refine (wClone_any _ r HRD.out hl).mono ?_; rintro e wA ⟨vA, rfl, hoA, hnA, hbA⟩; have hcA : wA.cell? ⟨w.heap.size, 1, none⟩ = some vs := (hbA.cell (p := ⟨w.heap.size, 1, none⟩) (show w.heap.size < w0.drew.heap.size by omega)).trans HC2.out; have HRESA := Lib.hid ((hbA.block (w.heap.size + 1) (by omega)).trans HRESD.out); have HOA := Lib.hid (ownsRow_base hoA (show w.heap.size ≤ w0.drew.heap.size by omega)); have HSA := Lib.hid (HSD.out.mono hbA); have HBA := Lib.hid (HBD.out.trans (hbA.mono (by omega))); have hszA : w.heap.size + 2 ≤ wA.heap.size := (by have := hbA.size; omega); have HNA := Lib.hid hnA; obtain ⟨aA, cA, rfl, -, -⟩ := own_open hoA; clear hoA hnA hbA)
    | (go_simp; go_at_call 55; refine (bClone_any _ s HSA.out hl2).mono ?_; rintro e wB ⟨vB, rfl, hoB, hnB, hbB⟩; have hRB := (hbB.block (w.heap.size + 1) (by omega)).trans HRESA.out; have HRB := Lib.hid hRB; have hcB0 := cell_of_heap (j := 0) (u := nilS) hRB rfl; have hcB1 := cell_of_heap (j := 1) (u := nilS) hRB rfl; have hfB0 := frozen_of_heap (j := 0) hRB; have hfB1 := frozen_of_heap (j := 1) hRB; have HOB := Lib.hid hoB; have HOA2 := Lib.hid (owns_kept HOA.out hbB); have HNB := Lib.hid hnB; have HBB := Lib.hid (HBA.out.trans (hbB.mono (by omega))); obtain ⟨aB, cB, rfl, -, -⟩ := own_open hoB; clear hoB hnB hbB hRB))
  all_goals
    have HRES1 := Lib.hid (heap_setCell_at (j := 1) (u := .slice aB s.length cB) (heap_setCell_at (j := 0) (u := .slice aA r.length cA) HRB.out))
    have HO1 := Lib.hid (own_set (own_set HOA2.out HRB.out (by decide) 0 (.slice aA r.length cA)) (heap_setCell_at (j := 0) (u := .slice aA r.length cA) HRB.out) (by decide) 1 (.slice aB s.length cB))
    have HO2 := Lib.hid (own_set (own_set (ownsRow_base HOB.out (show w.heap.size ≤ wA.heap.size by omega)) HRB.out (by decide) 0 (.slice aA r.length cA)) (heap_setCell_at (j := 0) (u := .slice aA r.length cA) HRB.out) (by decide) 1 (.slice aB s.length cB))
    have HBF := Lib.hid ((HBB.out.setCell (p := ⟨w.heap.size + 1, 0, none⟩) (Nat.le_succ _) (.slice aA r.length cA)).setCell (p := ⟨w.heap.size + 1, 1, none⟩) (Nat.le_succ _) (.slice aB s.length cB))
    go_wp2
    refine bodyPost_ret (results_cell_row rfl _ _ (w.heap.size + 1) 82 _ (0, 0) _ rfl HRES1.out Tryd.underlying82 rfl (by kernel_rfl)) rfl ?_
    exact ⟨_, _, rfl, HO1.out, HO2.out, HNA.out, HNB.out, HBF.out⟩
end Go.Proofs.YtnkkaggepokjeaaDoor
