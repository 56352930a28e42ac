/- Package precode: In, Gray where they answer. -/
import Derived.Test.YtpnjjbbpcdeooaaPcE
import Derived.Maps.AppendAt
namespace Go.Proofs.Ytpnjjbbpcdeooaa
open Go.RowKit Go.Extern.Stop Go.Stop Go.Extern

def withTo (R : List (List Nat)) (place q : Nat) : List Nat := (List.range q).filter fun i => decide (place ∈ R.getD i [])
theorem withTo_all (R : List (List Nat)) (place : Nat) : withTo R place R.length = rowsWith R place := rfl
theorem withTo_len (R : List (List Nat)) (place q : Nat) : (withTo R place q).length ≤ q := fr_len _ _

set_option maxRecDepth 1000000 in
set_option maxHeartbeats 4000000 in
theorem In_ok {w : World} (k s h l p x : Nat) (H : OfP k s h l p) (hk1 : 1 ≤ k) (hk2 : k ≤ 128) (hx : x < l) :
    Calls Try.prog 12 #[parV k s h l p, .int .i64 (x : Int)] w fun e w' => ∃ v g, e = .returned (.tuple #[v, .nilIface]) ∧ IsGr ((h + 1) / 2) (k + s) g ∧ ListAt colV w' v (rowsWith (rowsP k s h g) x) ∧ Below w.heap.size w w' := by
  obtain ⟨i0, hi, hz0, hz1, hz2⟩ := info_parts info_int
  obtain ⟨w0, hw0, hb0, hbx⟩ := par_laid w k s h l p
  have HW0 := Lib.hid hw0
  have HB0 := Lib.hid hb0
  have HBX := Lib.hid hbx
  obtain ⟨c0, c1, c2, c3, c4⟩ := hbx.cells
  obtain ⟨b1, b2, b3, b4, b5, b6, b7⟩ := H.bounds hk1 hk2
  have HR : Hid (∀ w, Calls Try.prog 18 #[.agg #[.int .i64 (k : Int), .int .i64 (s : Int), .int .i64 (h : Int), .int .i64 (l : Int), .int .i64 (p : Int)]] w fun e w' => e = .returned .nilIface ∧ Below w.heap.size w w') := Lib.hid fun w => right_ok k s h l p H hk1 hk2
  have HGA : Hid (∀ w, Calls Try.prog 20 #[.agg #[.int .i64 (k : Int), .int .i64 (s : Int), .int .i64 (h : Int), .int .i64 (l : Int), .int .i64 (p : Int)]] w fun e w' => ∃ v g, e = .returned v ∧ IsGr ((h + 1) / 2) (k + s) g ∧ MatAt colV w' v (rowsP k s h g) ∧ Below w.heap.size w w') := Lib.hid fun w => gather_any k s h l p H hk1 hk2
  have d1 : decide ((x : Int) < 0) = false := decide_eq_false (by omega)
  have d2 : decide ((l : Int) ≤ (x : Int)) = false := decide_eq_false (by omega)
  have d3 : decide (l ≤ x) = false := decide_eq_false (by omega)
  have hx157 : x ≤ 157 := by omega
  clear hw0 hb0 hbx H
  unfold parV parC
  go_enter Try.func12, Try.ntmps12
  go_upto_region 1 with fail
  rw [← HW0.out]
  go_wp2_with fail
  refine (HR.out _).mono ?_
  rintro e w1 ⟨rfl, hb1⟩
  have HB1 := Lib.hid (HB0.out.trans (hb1.mono HB0.out.size))
  have hbx2 := HBX.out.mono hb1
  clear c0 c1 c2 c3 c4
  obtain ⟨c0, c1, c2, c3, c4⟩ := hbx2.cells
  clear hb1 hbx2
  go_wp2_with fail
  refine (HGA.out _).mono ?_
  rintro e w2 ⟨v, g, rfl, hg, hm, hb2⟩
  have HG := Lib.hid hg
  have HB2 := Lib.hid (HB1.out.trans (hb2.mono HB1.out.size))
  have HM := Lib.hid hm
  obtain ⟨a, cap, rfl, hcap, -, hcell⟩ := hm.opens
  have HLN := Lib.hid (rowsP_length k s h g)
  rw [rowsP_length] at hcap hcell ⊢
  have HC := Lib.hid hcell
  obtain ⟨R, hR⟩ : ∃ R, rowsP k s h g = R := ⟨_, rfl⟩
  rw [hR] at HC HM HLN
  have HRR := Lib.hid hR
  obtain ⟨n, hn⟩ : ∃ n, s + h = n := ⟨_, rfl⟩
  have hn29 : n ≤ 29 := by omega
  rw [hn] at hcap HC HLN ⊢
  clear hg hm hb2 c0 c1 c2 c3 c4 hcell hR hn
  go_wp2_with fail
  go_loopw [7, 28] (fun o i wr => ∃ (q m : Nat), q ≤ n ∧ i = .int .i64 q ∧ (withTo R x q).length = m ∧ wr.ownsRow w2.heap.size 3 1 o m ((withTo R x q).map colV) ∧ Below w2.heap.size w2 wr) (fun _ i _ => n - (intOf i).toNat)
  case atStart => exact ⟨0, 0, Nat.zero_le _, rfl, rfl, World.ownsRow_nil _ _ _ _, Below.refl _ _⟩
  case round =>
    obtain ⟨q, m, hq, rfl, hm, hown, hbel⟩ := hrel
    have HO := Lib.hid hown
    have HB := Lib.hid hbel
    have hsz := hbel.size
    have HMM := Lib.hid hm
    have hmq : m ≤ q := by rw [← hm]; exact withTo_len _ _ _
    obtain ⟨ao, co, rfl, -, -⟩ := own_open hown
    clear hown hm
    by_cases hlt : q < n
    · obtain ⟨b, off, rfl, hcc⟩ := HC.out (by omega)
      obtain ⟨y, hy, hly⟩ := hcc q hlt
      have hyr := (hbel.cell (p := ⟨b, off + q, none⟩) (World.block_lt_of_cell? w2 _ hy)).trans hy
      have HLY := Lib.hid (hly.mono hbel)
      obtain ⟨ay, cy, rfl, -⟩ := hly
      clear hcc hy hbel
      by_cases hin : x ∈ R.getD q []
      · have HS : Hid (withTo R x (q + 1) = withTo R x q ++ [q]) := Lib.hid (fr_one (by simpa using hin))
        have HD := Lib.hid (decide_eq_true hin)
        clear hin
        go_wp2_with fail
        refine (Contains_any _ (R.getD q []) x HLY.out (by omega)).mono ?_
        rintro e w3 ⟨rfl, rfl⟩
        rw [HD.out]
        go_wp2_with (at_builtin; refine wpList_append_own _ rfl (.tmp 36) (.tmp 38) 33 rfl w2.heap.size 3 i0 (.int .i64 0) 1 8 Try.underlying33 hi hz0 hz1 hz2 rfl (by decide) (.slice ao m co) m ((withTo R x q).map colV) rfl (HO.out.alloc _) ⟨wr.heap.size, 0, none⟩ 1 1 [.int .i64 (q : Int)] rfl rfl (cell_one_new _ _ _) (fun x hx => by simp at hx; subst hx; rfl) (by unfold maxLen; omega) (by omega) (by simp; omega) ?_; intro v2 w4 hown1 hgrow1 _; have hb3 := Lib.hid ((HB.out.alloc hsz _).grown hgrow1 (by simp; omega) (fun k hk => (HO.out.lt k hk).1)); have ho2 := Lib.hid hown1; clear hown1 hgrow1)
        go_roundw
        case rel => exact ⟨q + 1, m + 1, by omega, by go_num, by rw [HS.out, List.length_append, HMM.out]; rfl, by rw [HS.out, List.map_append]; exact ho2.out, hb3.out⟩
        case measure => simp [intOf]; omega
      · have HS : Hid (withTo R x (q + 1) = withTo R x q) := Lib.hid (fr_none (by simpa using hin))
        have HD := Lib.hid (decide_eq_false hin)
        clear hin
        go_wp2_with fail
        refine (Contains_any _ (R.getD q []) x HLY.out (by omega)).mono ?_
        rintro e w3 ⟨rfl, rfl⟩
        rw [HD.out]
        go_wp2
        go_roundw
        case rel => exact ⟨q + 1, m, by omega, by go_num, by rw [HS.out]; exact HMM.out, by rw [HS.out]; exact HO.out, HB.out⟩
        case measure => simp [intOf]; omega
    · obtain rfl : q = n := by omega
      have HE : Hid (ListAt colV wr (.slice ao m co) (rowsWith (rowsP k s h g) x)) := Lib.hid (by
        rw [HRR.out, ← withTo_all, HLN.out]
        have := HO.out
        rw [← HMM.out] at this ⊢
        exact ListAt.of_owns this)
      clear hbel
      go_wp2
      go_ret2
      exact ⟨_, g, rfl, HG.out, HE.out, HB2.out.trans (HB.out.mono HB2.out.size)⟩

def nameGray : ByteArray := ⟨#[112, 114, 101, 99, 111, 100, 101, 46, 71, 114, 97, 121]⟩
set_option maxRecDepth 1000000 in
set_option maxHeartbeats 1000000 in
theorem Gray_ok {w : World} (wt n : Nat) (hw1 : 1 ≤ wt) (hw2 : wt ≤ 16) (hn : n ≤ 4096) (L : List Nat) (hL : IsGr wt n L) (hl : L.length = n) :
    Calls Try.prog 26 #[.int .i64 (wt : Int), .int .i64 (n : Int)] w fun e w' => ∃ v, e = .returned (.tuple #[v, .nilIface]) ∧ ListAt colV w' v L ∧ Below w.heap.size w w' := by
  have d1 : decide ((wt : Int) < 1) = false := decide_eq_false (by omega)
  have d2 : decide ((16 : Int) < (wt : Int)) = false := decide_eq_false (by omega)
  have d3 : decide ((n : Int) < 0) = false := decide_eq_false (by omega)
  have d4 : decide ((4096 : Int) < (n : Int)) = false := decide_eq_false (by omega)
  have d5 : decide (16 < wt) = false := decide_eq_false (by omega)
  have d6 : decide (4096 < n) = false := decide_eq_false (by omega)
  have HL := Lib.hid hL
  have HLL := Lib.hid hl
  clear hL hl
  go_enter Try.func26, Try.ntmps26
  go_wp2_with fail
  refine (first_any wt n hw2 (by omega)).mono ?_
  rintro e w1 ⟨v, l', rfl, hg, hown, hb⟩
  obtain rfl := hg.unique HL.out
  have HO := Lib.hid (ListAt.of_owns hown)
  have HB := Lib.hid hb
  rw [HLL.out] at hown
  obtain ⟨ao, co, rfl, -, -⟩ := own_open hown
  clear hg hown hb
  go_wp2
  go_ret2
  exact ⟨_, rfl, HO.out, HB.out⟩
set_option maxRecDepth 1000000 in
set_option maxHeartbeats 1000000 in
theorem Gray_few {w : World} (wt n : Nat) (hw1 : 1 ≤ wt) (hw2 : wt ≤ 16) (hn : n ≤ 4096) (L : List Nat) (hL : IsGr wt n L) (hl : L.length < n) :
    Calls Try.prog 26 #[.int .i64 (wt : Int), .int .i64 (n : Int)] w (NoSays 4 nameGray nilS w) := by
  have d1 : decide ((wt : Int) < 1) = false := decide_eq_false (by omega)
  have d2 : decide ((16 : Int) < (wt : Int)) = false := decide_eq_false (by omega)
  have d3 : decide ((n : Int) < 0) = false := decide_eq_false (by omega)
  have d4 : decide ((4096 : Int) < (n : Int)) = false := decide_eq_false (by omega)
  have d5 : decide (16 < wt) = false := decide_eq_false (by omega)
  have d6 : decide (4096 < n) = false := decide_eq_false (by omega)
  have HL := Lib.hid hL
  obtain ⟨m, hm⟩ : ∃ m, L.length = m := ⟨_, rfl⟩
  rw [hm] at hl
  have HM := Lib.hid hm
  clear hL hm
  go_enter Try.func26, Try.ntmps26
  go_wp2_with fail
  refine (first_any wt n hw2 (by omega)).mono ?_
  rintro e w1 ⟨v, l', rfl, hg, hown, hb⟩
  obtain rfl := hg.unique HL.out
  have HB := Lib.hid hb
  rw [HM.out] at hown
  obtain ⟨ao, co, rfl, -, -⟩ := own_open hown
  clear hg hown hb
  go_wp2_with fail
  refine (New_ans _ 4 (by decide) _).mono ?_
  rintro e w2 ⟨E1, rfl, hc1, hb1⟩
  have HC1 := Lib.hid hc1
  have HB1 := Lib.hid (HB.out.trans (hb1.mono HB.out.size))
  obtain ⟨u, x, rfl⟩ := hc1.some (by decide)
  clear hc1 hb1
  go_wp2
  go_ret2
  exact ⟨_, rfl, HC1.out, HB1.out⟩
end Go.Proofs.Ytpnjjbbpcdeooaa
