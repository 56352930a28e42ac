/- Package geyserref03: Gauss, Rank, Plain, Picks, Spans. -/
import Derived.Test.YtpnjjbbpcdeooaaMxRefC
import Derived.Deep.RegionWith
import Derived.IntWalk
namespace Go.Proofs.Ytpnjjbbpcdeooaa
open Go.RowKit Go.Extern.Stop Go.Stop Go.Extern

def RowsLen (R : List (List Bool)) (n : Nat) : Prop := ∀ k, k < R.length → (R.getD k []).length = n

theorem swB_getD {R : List (List Bool)} {i j k : Nat} (hi : i < R.length) (hj : j < R.length) : (swB R i j).getD k [] = if k = j then R.getD i [] else if k = i then R.getD j [] else R.getD k [] := by
  unfold swB
  rw [getD_set _ _ _ _ _ (by simp; omega), getD_set _ _ _ _ _ hi]
theorem swB_rows {R : List (List Bool)} {n i j : Nat} (h : RowsLen R n) (hi : i < R.length) (hj : j < R.length) : RowsLen (swB R i j) n := fun k hk => by
  rw [swB_length] at hk
  rw [swB_getD hi hj]
  split
  · exact h i hi
  · split
    · exact h j hj
    · exact h k hk
theorem clTo_getD {R : List (List Bool)} {a c n k : Nat} (hk : k < n) : (clTo R a c n).getD k [] = clB R a c k := by
  unfold clTo; rw [range_getD, if_pos hk]
theorem clTo_rows {R : List (List Bool)} {n a c : Nat} (h : RowsLen R n) : RowsLen (clTo R a c R.length) n := fun k hk => by
  rw [clTo_length] at hk
  rw [clTo_getD hk]
  unfold clB
  split
  · rw [sumB_length]; exact h k hk
  · exact h k hk

/-- One step of the elimination, as it is made. -/
theorem gauss_rows {R : List (List Bool)} {n done c i : Nat} (h : RowsLen R n) (hd : done < R.length) (hi : i < R.length) :
    ∀ k, k < (vecsB R).length → (vecsB (clTo (swB R done i) done c R.length)).getD k vzero = clf (swf (vecsB R) done i) done c k := by
  intro k hk
  rw [vecsB_length] at hk
  have hs : ∀ j, bitB ((swB R done i).getD j []) = swf (vecsB R) done i j := fun j => by
    rw [swB_getD hd hi]
    unfold swf
    rw [vecsB_getD, vecsB_getD, vecsB_getD]
    by_cases e1 : j = i
    · rw [if_pos e1, if_pos e1]
    · rw [if_neg e1, if_neg e1]
      by_cases e2 : j = done
      · rw [if_pos e2, if_pos e2]
      · rw [if_neg e2, if_neg e2]
  rw [vecsB_getD, clTo_getD hk]
  unfold clB clf
  rw [hs k]
  by_cases hc : k ≠ done ∧ swf (vecsB R) done i k c = true
  · rw [if_pos hc, if_pos hc, bitB_sum, hs k, hs done]
    have hl := swB_rows h hd hi
    rw [hl k (by rw [swB_length]; exact hk), hl done (by rw [swB_length]; exact hd)]
  · rw [if_neg hc, if_neg hc, hs k]

theorem rows_low {R : List (List Bool)} {n : Nat} (h : RowsLen R n) : ∀ r ∈ vecsB R, ∀ c, n ≤ c → r c = false := fun r hr c hc => by
  obtain ⟨b, hb, rfl⟩ := List.mem_map.1 hr
  obtain ⟨k, hk, rfl⟩ := List.getElem_of_mem hb
  have := h k hk
  have e : R.getD k [] = R[k] := by simp [hk]
  rw [e] at this
  exact bitB_out (by omega)

/-- The frame of the elimination's loop. -/
def GIn (R0 R : List (List Bool)) (n done c : Nat) : Prop := R.length = R0.length ∧ RowsLen R n ∧ (∃ p, GI (vecsB R) done c p) ∧ SpEq (vecsB R) (vecsB R0)
theorem GIn.start {R : List (List Bool)} {n : Nat} (h : RowsLen R n) : GIn R R n 0 0 := ⟨rfl, h, ⟨fun _ => 0, GI.start _ _⟩, SpEq.refl _⟩
theorem GIn.done_le {R0 R : List (List Bool)} {n done c : Nat} (h : GIn R0 R n done c) : done ≤ R.length := by
  obtain ⟨_, _, ⟨p, hp⟩, _⟩ := h
  have := hp.le
  rwa [vecsB_length] at this
theorem GIn.skip {R0 R : List (List Bool)} {n done c : Nat} (h : GIn R0 R n done c) (hn : ∀ k, done ≤ k → k < R.length → bitB (R.getD k []) c = false) : GIn R0 R n done (c + 1) := by
  obtain ⟨h1, h2, ⟨p, hp⟩, h4⟩ := h
  exact ⟨h1, h2, ⟨p, hp.skip fun k a b => by rw [vecsB_length] at b; rw [vecsB_getD]; exact hn k a b⟩, h4⟩
theorem GIn.step {R0 R : List (List Bool)} {n done c i : Nat} (h : GIn R0 R n done c) (hi : done ≤ i) (hil : i < R.length) (hb : bitB (R.getD i []) c = true) : GIn R0 (clTo (swB R done i) done c R.length) n (done + 1) (c + 1) := by
  obtain ⟨h1, h2, ⟨p, hp⟩, h4⟩ := h
  have hd : done < R.length := by omega
  have hg := gauss_rows (c := c) h2 hd hil
  have hl : (vecsB (clTo (swB R done i) done c R.length)).length = (vecsB R).length := by rw [vecsB_length, vecsB_length, clTo_length]
  refine ⟨by rw [clTo_length]; exact h1, ?_, ⟨_, hp.step hi (by rw [vecsB_length]; exact hil) (by rw [vecsB_getD]; exact hb) hl hg⟩, (gauss_span hi (by rw [vecsB_length]; exact hil) hl hg).trans h4⟩
  have := clTo_rows (a := done) (c := c) (swB_rows h2 hd hil)
  rwa [swB_length] at this
theorem GIn.finish {R0 R : List (List Bool)} {n done : Nat} (h : GIn R0 R n done n) : RowsLen (R.take done) n ∧ PF (vecsB (R.take done)) ∧ SpEq (vecsB (R.take done)) (vecsB R0) := by
  obtain ⟨h1, h2, ⟨p, hp⟩, h4⟩ := h
  have e : vecsB (R.take done) = (vecsB R).take done := by unfold vecsB; rw [List.map_take]
  obtain ⟨f1, f2⟩ := hp.finish (rows_low h2)
  rw [← e] at f1 f2
  refine ⟨fun k hk => ?_, f1, f2.trans h4⟩
  rw [List.length_take] at hk
  have := h2 k (by omega)
  simp only [List.getD_eq_getElem?_getD, List.getElem?_take] at this ⊢
  rw [if_pos (by omega)]
  exact this

set_option maxRecDepth 1000000 in
set_option maxHeartbeats 2000000 in
/-- The elimination over the first n columns of rows of m. -/
theorem Gauss_gen {w : World} (v : Value) (R0 : List (List Bool)) (n m : Nat) (h : MatAt boolV w v R0) (hr : RowsLen R0 m) (hnm : n ≤ m) (hn : m ≤ 4096) (hl : R0.length ≤ 100000) :
    Calls Try.prog 23 #[v, .int .i64 (n : Int)] w fun e w' => ∃ v' R, ∃ done : Nat, e = .returned v' ∧ MatAt boolV w' v' (R.take done) ∧ GIn R0 R m done n ∧ Below w.heap.size w w' := by
  have HM0 := Lib.hid h
  have HR0 := Lib.hid hr
  clear h hr
  go_enter Try.func23, Try.ntmps23
  go_wp2
  go_loopw [0, 5, 6] (fun v d i wr => ∃ (c done : Nat) (R : List (List Bool)), c ≤ n ∧ i = .int .i64 c ∧ d = .int .i64 done ∧ MatAt boolV wr v R ∧ GIn R0 R m done c ∧ Below w.heap.size w wr) (fun _ _ i _ => n - (intOf i).toNat)
  case atStart => exact ⟨0, 0, R0, Nat.zero_le _, rfl, rfl, HM0.out, GIn.start HR0.out, Below.refl _ _⟩
  case round =>
    obtain ⟨c, done, R, hc, rfl, rfl, hM, hG, hbel⟩ := hrel
    have hsz := hbel.size
    have hdl := hG.done_le
    have hRl : R.length ≤ 100000 := by have := hG.1; omega
    have HM := Lib.hid hM
    have HG := Lib.hid hG
    have HB := Lib.hid hbel
    have HRL := Lib.hid hRl
    have HDL := Lib.hid hdl
    have HRW : Hid (∀ k, k < R.length → (R.getD k []).length = m) := Lib.hid hG.2.1
    clear hM hG hbel
    by_cases hlt : c < n
    · go_wp2_with fail
      refine (pivot_any _ R m done c HM.out HRW.out (by omega) hn hRl hdl).mono ?_
      rintro e w1 ⟨z, rfl, hz, rfl⟩
      rcases hz with ⟨rfl, hz⟩ | ⟨i, rfl, hdi, hil, hbit⟩
      · have HS := Lib.hid (HG.out.skip hz)
        clear hz
        go_wp2
        go_roundw
        case rel => exact ⟨c + 1, done, R, by omega, by go_num, rfl, HM.out, HS.out, HB.out⟩
        case measure => simp [intOf]; omega
      · have hd : done < R.length := by omega
        have HS := Lib.hid (HG.out.step hdi hil hbit)
        have HSR := Lib.hid (swB_rows HRW.out hd hil)
        have HSL := Lib.hid (swB_length R done i)
        clear hbit
        go_wp2_with fail
        refine (swap_any _ R done i HM.out hd hil hRl).mono ?_
        rintro e w1 ⟨v1, rfl, hv1, hb1⟩
        have HM1 := Lib.hid hv1
        have HB1 := Lib.hid (HB.out.trans (hb1.mono hsz))
        have hsz1 := HB1.out.size
        obtain ⟨a1, c1, rfl, -, -, -⟩ := hv1.opens
        clear hv1 hb1
        go_wp2_with fail
        refine (clear_any _ (swB R done i) m done c HM1.out HSR.out (by rw [HSL.out]; exact hd) (by omega) hn (by rw [HSL.out]; exact hRl)).mono ?_
        rintro e w2 ⟨v2, rfl, hv2, hb2⟩
        rw [HSL.out] at hv2
        have HM2 := Lib.hid hv2
        have HB2 := Lib.hid (HB1.out.trans (hb2.mono hsz1))
        obtain ⟨a2, c2, rfl, -, -, -⟩ := hv2.opens
        clear hv2 hb2
        go_wp2
        go_roundw
        case rel => exact ⟨c + 1, done + 1, _, by omega, by go_num, by go_num, HM2.out, HS.out, HB2.out⟩
        case measure => simp [intOf]; omega
    · have hc' : c = n := by omega
      subst hc'
      obtain ⟨a, cap, rfl, hcap, hcm, hcell⟩ := HM.out.opens
      have HT := Lib.hid (HM.out.take done hdl)
      have hdc : (done : Int) ≤ (cap : Int) := by omega
      clear hcell
      by_cases hR : 0 < R.length
      · go_wp2
        go_ret
        exact ⟨_, R, done, rfl, HT.out, HG.out, HB.out⟩
      · have hd0 : done = 0 := by omega
        subst hd0
        go_wp2
        go_ret
        exact ⟨_, R, 0, rfl, HT.out, HG.out, HB.out⟩

theorem Gauss_any {w : World} (v : Value) (R0 : List (List Bool)) (n : Nat) (h : MatAt boolV w v R0) (hr : RowsLen R0 n) (hn : n ≤ 4096) (hl : R0.length ≤ 100000) :
    Calls Try.prog 23 #[v, .int .i64 (n : Int)] w fun e w' => ∃ v' R, e = .returned v' ∧ MatAt boolV w' v' R ∧ RowsLen R n ∧ PF (vecsB R) ∧ SpEq (vecsB R) (vecsB R0) ∧ R.length ≤ R0.length ∧ Below w.heap.size w w' := by
  refine (Gauss_gen v R0 n n h hr (Nat.le_refl _) hn hl).mono ?_
  rintro e w' ⟨v', R, done, rfl, hm, hG, hb⟩
  obtain ⟨f1, f2, f3⟩ := hG.finish
  exact ⟨v', R.take done, rfl, hm, f1, f2, f3, by rw [List.length_take]; have := hG.1; omega, hb⟩
end Go.Proofs.Ytpnjjbbpcdeooaa
