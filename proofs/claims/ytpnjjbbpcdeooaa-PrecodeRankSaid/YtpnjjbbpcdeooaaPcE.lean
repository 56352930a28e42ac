/- Package precode: right numbers; All, Row, Gray, In where they answer; slices.Contains. -/
import Derived.Test.YtpnjjbbpcdeooaaPcD
import Derived.Deep.CutBlock
namespace Go.Proofs.Ytpnjjbbpcdeooaa
open Go.RowKit Go.Extern.Stop Go.Stop Go.Extern

set_option maxRecDepth 1000000 in
set_option maxHeartbeats 1000000 in
theorem right_ok {w : World} (k s h l p : Nat) (H : OfP k s h l p) (hk1 : 1 ≤ k) (hk2 : k ≤ 128) :
    Calls Try.prog 18 #[parV k s h l p] w fun e w' => e = .returned .nilIface ∧ Below w.heap.size w w' := by
  obtain ⟨w0, hw0, hb0, hbx⟩ := par_laid w k s h l p
  have HW0 := Lib.hid hw0
  have HB0 := Lib.hid hb0
  have HBX := Lib.hid hbx
  obtain ⟨c0, c1, c2, c3, c4⟩ := hbx.cells
  have HOF := Lib.hid H
  clear hw0 hb0 hbx H
  unfold parV parC
  go_enter Try.func18, Try.ntmps18
  go_wp2_with fail
  rw [← HW0.out]
  refine (Of_in k hk1 hk2).mono ?_
  rintro e w1 ⟨s', h', l', p', rfl, hof, hb1⟩
  obtain ⟨rfl, rfl, rfl, rfl⟩ := hof.unique HOF.out
  obtain ⟨W, hW, hbW, hby⟩ := par_laid w1 k s' h' l' p'
  have HW := Lib.hid hW
  have HB1 := Lib.hid (hb1.trans (hbW.mono hb1.size))
  have hbx2 := HBX.out.mono HB1.out
  clear c0 c1 c2 c3 c4
  obtain ⟨c0, c1, c2, c3, c4⟩ := hbx2.cells
  obtain ⟨d0, d1, d2, d3, d4⟩ := hby.cells
  clear hb1 hof hW hbW hby hbx2
  unfold parV parC
  go_upto_region 2 with fail
  rw [← HW.out]
  generalize w1.heap.size = g1 at *
  go_wp2
  go_ret
  exact ⟨rfl, HB0.out.trans (HB1.out.mono HB0.out.size)⟩

set_option maxRecDepth 1000000 in
set_option maxHeartbeats 1000000 in
theorem All_ok {w : World} (k s h l p : Nat) (H : OfP k s h l p) (hk1 : 1 ≤ k) (hk2 : k ≤ 128) :
    Calls Try.prog 7 #[parV k s h l p] w fun e w' => ∃ v g, e = .returned (.tuple #[v, .nilIface]) ∧ IsGr ((h + 1) / 2) (k + s) g ∧ MatAt colV w' v (rowsP k s h g) ∧ Below w.heap.size w w' := by
  obtain ⟨w0, hw0, hb0, hbx⟩ := par_laid w k s h l p
  have HW0 := Lib.hid hw0
  have HB0 := Lib.hid hb0
  have HBX := Lib.hid hbx
  obtain ⟨c0, c1, c2, c3, c4⟩ := hbx.cells
  have HR : Hid (∀ w, Calls Try.prog 18 #[.agg #[.int .i64 (k : Int), .int .i64 (s : Int), .int .i64 (h : Int), .int .i64 (l : Int), .int .i64 (p : Int)]] w fun e w' => e = .returned .nilIface ∧ Below w.heap.size w w') := Lib.hid fun w => right_ok k s h l p H hk1 hk2
  have HGA : Hid (∀ w, Calls Try.prog 20 #[.agg #[.int .i64 (k : Int), .int .i64 (s : Int), .int .i64 (h : Int), .int .i64 (l : Int), .int .i64 (p : Int)]] w fun e w' => ∃ v g, e = .returned v ∧ IsGr ((h + 1) / 2) (k + s) g ∧ MatAt colV w' v (rowsP k s h g) ∧ Below w.heap.size w w') := Lib.hid fun w => gather_any k s h l p H hk1 hk2
  clear hw0 hb0 hbx H
  unfold parV parC
  go_enter Try.func7, Try.ntmps7
  go_upto_region 1 with fail
  rw [← HW0.out]
  go_wp2_with fail
  refine (HR.out _).mono ?_
  rintro e w1 ⟨rfl, hb1⟩
  have HB1 := Lib.hid (HB0.out.trans (hb1.mono HB0.out.size))
  have hbx2 := HBX.out.mono hb1
  clear c0 c1 c2 c3 c4
  obtain ⟨c0, c1, c2, c3, c4⟩ := hbx2.cells
  clear hb1 hbx2
  go_wp2_with fail
  refine (HGA.out _).mono ?_
  rintro e w2 ⟨v, g, rfl, hg, hm, hb2⟩
  have HG := Lib.hid hg
  have HM := Lib.hid hm
  have HB2 := Lib.hid (HB1.out.trans (hb2.mono HB1.out.size))
  clear hg hm hb2 c0 c1 c2 c3 c4
  go_wp2
  go_ret2
  exact ⟨_, g, rfl, HG.out, HM.out, HB2.out⟩

set_option maxRecDepth 1000000 in
set_option maxHeartbeats 1000000 in
theorem Row_ok {w : World} (k s h l p i : Nat) (H : OfP k s h l p) (hk1 : 1 ≤ k) (hk2 : k ≤ 128) (hi : i < s + h) :
    Calls Try.prog 25 #[parV k s h l p, .int .i64 (i : Int)] w fun e w' => ∃ v g, e = .returned (.tuple #[v, .nilIface]) ∧ IsGr ((h + 1) / 2) (k + s) g ∧ ListAt colV w' v ((rowsP k s h g).getD i []) ∧ Below w.heap.size w w' := by
  obtain ⟨w0, hw0, hb0, hbx⟩ := par_laid w k s h l p
  have HW0 := Lib.hid hw0
  have HB0 := Lib.hid hb0
  have HBX := Lib.hid hbx
  obtain ⟨c0, c1, c2, c3, c4⟩ := hbx.cells
  obtain ⟨b1, b2, b3, b4, -⟩ := H.bounds hk1 hk2
  have HR : Hid (∀ w, Calls Try.prog 18 #[.agg #[.int .i64 (k : Int), .int .i64 (s : Int), .int .i64 (h : Int), .int .i64 (l : Int), .int .i64 (p : Int)]] w fun e w' => e = .returned .nilIface ∧ Below w.heap.size w w') := Lib.hid fun w => right_ok k s h l p H hk1 hk2
  have HGA : Hid (∀ w, Calls Try.prog 20 #[.agg #[.int .i64 (k : Int), .int .i64 (s : Int), .int .i64 (h : Int), .int .i64 (l : Int), .int .i64 (p : Int)]] w fun e w' => ∃ v g, e = .returned v ∧ IsGr ((h + 1) / 2) (k + s) g ∧ MatAt colV w' v (rowsP k s h g) ∧ Below w.heap.size w w') := Lib.hid fun w => gather_any k s h l p H hk1 hk2
  have d1 : decide ((i : Int) < 0) = false := decide_eq_false (by omega)
  have d2 : decide ((s : Int) + (h : Int) ≤ (i : Int)) = false := decide_eq_false (by omega)
  have d3 : decide (s + h ≤ i) = false := decide_eq_false (by omega)
  clear hw0 hb0 hbx H
  unfold parV parC
  go_enter Try.func25, Try.ntmps25
  go_upto_region 1 with fail
  rw [← HW0.out]
  go_wp2_with fail
  refine (HR.out _).mono ?_
  rintro e w1 ⟨rfl, hb1⟩
  have HB1 := Lib.hid (HB0.out.trans (hb1.mono HB0.out.size))
  have hbx2 := HBX.out.mono hb1
  clear c0 c1 c2 c3 c4
  obtain ⟨c0, c1, c2, c3, c4⟩ := hbx2.cells
  clear hb1 hbx2
  go_wp2_with fail
  refine (HGA.out _).mono ?_
  rintro e w2 ⟨v, g, rfl, hg, hm, hb2⟩
  have HG := Lib.hid hg
  have HB2 := Lib.hid (HB1.out.trans (hb2.mono HB1.out.size))
  obtain ⟨a, cap, rfl, hcap, -, hcell⟩ := hm.opens
  have hln := rowsP_length k s h g
  obtain ⟨b, off, rfl, hcc⟩ := hcell (by omega)
  obtain ⟨x, hx, hlx⟩ := hcc i (by omega)
  have HX := Lib.hid hlx
  rw [hln] at hcap ⊢
  obtain ⟨n, hn⟩ : ∃ n, s + h = n := ⟨_, rfl⟩
  rw [hn] at hcap hi ⊢
  clear hg hm hb2 c0 c1 c2 c3 c4 hcell hcc hln hlx hn
  go_wp2
  go_ret2
  exact ⟨_, g, rfl, HG.out, HX.out, HB2.out⟩

set_option maxRecDepth 1000000 in
theorem Index_any {w : World} (v : Value) (l : List Int) (n : Int) (h : ListAt intV w v l) :
    Calls Try.prog 38 #[v, .int .i64 n] w fun e w' => (∃ z : Int, e = .returned (.int .i64 z) ∧ (decide (0 ≤ z) = decide (n ∈ l)) ∧ I64 z) ∧ w = w' := by
  have hlen := h.len
  obtain ⟨a, cap, rfl, hcap, hcm, hcell⟩ := h
  have HC := Lib.hid hcell
  clear hcell
  go_enter Try.func38, Try.ntmps38
  go_wp2
  go_loopw [8] (fun i wr => ∃ k : Nat, k ≤ l.length ∧ i = .int .i64 k ∧ (∀ j (hj : j < l.length), j < k → l[j] ≠ n) ∧ w = wr) (fun i _ => l.length - (intOf i).toNat)
  case atStart => exact ⟨0, Nat.zero_le _, rfl, fun j _ hj => by omega, rfl⟩
  case round =>
    obtain ⟨k, hk, rfl, hz, rfl⟩ := hrel
    have HZ := Lib.hid hz
    clear hz
    by_cases hlt : k < l.length
    · obtain ⟨b, off, rfl, hcc⟩ := HC.out (by omega)
      have hx : w.cell? ⟨b, off + k, none⟩ = some (.int .i64 l[k]) := hcc k hlt
      have HM : Hid (l[k] ∈ l) := Lib.hid (List.getElem_mem hlt)
      have HX : Hid (l[k] = l[k]) := Lib.hid rfl
      clear hcc
      by_cases he : l[k] = n
      · rw [he] at hx
        have hb : (n == n) = true := by simp
        have HM2 : Hid (n ∈ l) := by rw [← he]; exact HM
        clear he HM HX
        go_wp2
        go_ret
        exact ⟨⟨_, rfl, by rw [decide_eq_true HM2.out, decide_eq_true (by omega)], by omega, by omega⟩, rfl⟩
      · have hb : (n == l[k]) = false := by rw [beq_eq_false_iff_ne]; exact fun e => he e.symm
        have HE := Lib.hid he
        clear he HM HX
        generalize hy : l[k] = y at hx hb
        have HY := Lib.hid hy
        clear hy
        go_wp2
        go_roundw
        case rel => exact ⟨k + 1, by omega, by go_num, fun j hj hjk => by
          by_cases e : j = k
          · subst e; exact HE.out
          · exact HZ.out j hj (by omega), trivial⟩
        case measure => simp [intOf]; omega
    · have hk' : k = l.length := by omega
      go_wp2
      go_ret
      have hn : ¬ n ∈ l := by
        intro hmem
        obtain ⟨j, hj, e⟩ := List.getElem_of_mem hmem
        exact HZ.out j hj (by omega) e
      exact ⟨⟨_, rfl, by rw [decide_eq_false hn]; rfl, by omega, by omega⟩, rfl⟩

theorem cols_mem {l : List Nat} {x : Nat} : (x : Int) ∈ l.map Int.ofNat ↔ x ∈ l := by
  rw [List.mem_map]
  constructor
  · rintro ⟨y, hy, e⟩
    have : y = x := by have e' : (y : Int) = (x : Int) := e; omega
    exact this ▸ hy
  · intro h; exact ⟨x, h, rfl⟩
set_option maxRecDepth 1000000 in
theorem Contains_any {w : World} (v : Value) (l : List Nat) (x : Nat) (h : ListAt colV w v l) (_hx : x ≤ 1000000) :
    Calls Try.prog 28 #[v, .int .i64 (x : Int)] w fun e w' => e = .returned (.bool (decide (x ∈ l))) ∧ w = w' := by
  have HI := Lib.hid (Index_any v (l.map Int.ofNat) (x : Int) h.cols)
  have HE : Hid (decide ((x : Int) ∈ l.map Int.ofNat) = decide (x ∈ l)) := Lib.hid (decide_eq_decide.2 cols_mem)
  obtain ⟨a, cap, rfl, -⟩ := h
  go_enter Try.func28, Try.ntmps28
  go_wp2_with fail
  refine HI.out.mono ?_
  rintro e w1 ⟨⟨z, rfl, hz, hz1, hz2⟩, rfl⟩
  have HZ := Lib.hid (hz.trans HE.out)
  clear hz
  go_wp2
  go_ret
  exact ⟨by rw [← HZ.out]; rfl, rfl⟩
end Go.Proofs.Ytpnjjbbpcdeooaa
