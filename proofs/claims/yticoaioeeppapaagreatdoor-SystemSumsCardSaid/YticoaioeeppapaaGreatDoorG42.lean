import Derived.Test.YticoaioeeppapaaGreatDoorChecked
import Derived.WalkKit
import Derived.ProofKit
import Derived.OpenShut
import Derived.Deep.DeepHandedRow
import Derived.Deep.Strs
import Derived.LaidHandle
import Derived.Test.YticoaioeeppapaaGreatDoorG36
import Derived.Test.YticoaioeeppapaaGreatDoorG41
import Derived.Test.YticoaioeeppapaaGreatDoorG32
import Derived.Outline
import Derived.Test.YticoaioeeppapaaGreatDoorG12

section
/- What every law's row shares: a call that answers true and turns nothing that was there meets the row; a slice of strings that came in reads as its strings. -/
namespace Go.Proofs.YticoaioeeppapaaGreatDoor
open Go.ChangeShapes Go.WideShapes Go.ChangeAt Go.RowKit Go.Deep

section
variable {H : Type} {enc : TypeId × Value → H} {P : Program}

theorem trodAll_below (hl : laidOutB P = true) {W W' : World} (hb : Below W.heap.size W W') : ∀ (ts : List TypeId) (vs : List Value) (ds : List (DataW H)) (ps : List MemPlace),
    (ts.all fun t => P.readableRec t && decide (t < P.types.size)) = true → DataW.TrodAll enc P W 0 (fun _ => true) true ts vs ds ps → (∀ x ∈ ps, x.block < W.heap.size) →
    DataW.TrodAll enc P W' 0 (fun b => decide (b < W.heap.size)) true ts vs ds ps := by
  intro ts
  induction ts with
  | nil =>
    intro vs ds ps _ h _
    obtain ⟨rfl, rfl, rfl⟩ := trodAll_nil h
    exact trodAll_mk0
  | cons t ts ih =>
    intro vs ds ps hr h hlt
    obtain ⟨v, vs', d, ds', p, q, rfl, rfl, rfl, h1, h2⟩ := trodAll_cons h
    simp only [List.all_cons, Bool.and_eq_true, decide_eq_true_eq] at hr
    exact trodAll_cons_mk (Below.trod hl hr.1.1 hr.1.2 h1 hb (fun x hx => hlt x (by simp [hx]))) (ih vs' ds' q hr.2 h2 (fun x hx => hlt x (by simp [hx])))

/-- A LAW's POST: it answered true, and nothing that was there has turned. -/
theorem law_post {fn : Func} {s : ChangeSpec} {apart fresh handsOn : Bool} {W W' : World} {args : Array Value} {ds gs : List (DataW H)} {before : List MemPlace} {bt : TypeId}
    (hl : laidOutB P = true) (hr : (fn.params.toList.all fun t => P.readableRec t && decide (t < P.types.size)) = true) (hrt : fn.resultTypes = #[bt]) (hbt : P.underlying bt = some .bool)
    (hsv : s.vars = []) (hW : DataW.Whole enc P fn.params.toList s.vars apart W args.toList ds gs before)
    (hspec : s.fn H (ds ++ gs) = { results := [.lit (.bool true)], args := ds, vars := [] }) (hb : Below W.heap.size W W') :
    s.post enc P fn apart fresh handsOn false W args (.bool true) W' := by
  have hW' := hW
  obtain ⟨p, q, hA, hV, rfl, _, _⟩ := hW
  rw [hsv] at hV
  obtain ⟨rfl, rfl⟩ := trodVars_none hV
  refine ⟨ds, [], _, [], p, [], hW', ?_, ?_, ?_, hb.frame _, fun h => by cases h⟩
  · rw [hspec, hrt]; exact trodAll_mk1 (shut_bool hbt true)
  · rw [hspec]; exact trodAll_below hl hb _ _ _ _ hr hA (fun x hx => by have := hW'.lt x (by simp [hx]); exact this)
  · rw [hspec, hsv]; rfl

theorem strs_open {t e : TypeId} {v : Value} {d : DataW H} {ps : List MemPlace} {W : World} {base : Nat} (ht : P.underlying t = some (.slice e)) (he : P.underlying e = some .string) (hc : P.cellsOf e = 1)
    (hok : Value.okWide P W .any base t v) (h : DataW.Trod enc P W 0 (fun _ => true) true t v d ps) :
    ∃ a cap, ∃ ss : List ByteArray, v = .slice a ss.length cap ∧ ss.length ≤ cap ∧ cap ≤ maxLen ∧ (0 < ss.length → ∃ b off, a = some ⟨b, off, none⟩ ∧ ∀ j (hj : j < ss.length), W.cell? ⟨b, off + j, none⟩ = some (.string ss[j])) := by
  obtain ⟨a0, len, cap, rfl⟩ := okWide_slice ht hok
  obtain ⟨fuel, hf⟩ := h
  rcases open_strs ht he hc hf with ⟨hcs, _⟩ | ⟨a, len', cap', m, Sx, hcs, _, hl, hm, hmm, hx, hcell⟩
  · simp [Value.cells] at hcs
    obtain ⟨rfl, rfl, rfl⟩ := hcs
    exact ⟨none, 0, [], by simp, by simp, Nat.zero_le _, fun h => by simp at h⟩
  · simp [Value.cells] at hcs
    obtain ⟨rfl, rfl, rfl⟩ := hcs
    have hm' : len ≤ m := by rw [hmm]; simp; omega
    refine ⟨some a, cap, (List.range len).map Sx, by simp, by simpa using hl, hm, fun hp => ?_⟩
    simp at hp
    obtain ⟨b, off, spot⟩ := a
    have hspot : spot = none := by simpa [Addr.add] using World.cell?_spot (hcell 0 (by omega)).1
    subst hspot
    refine ⟨b, off, rfl, fun j hj => ?_⟩
    simp at hj
    rw [← Go.WideShapes.add_plain, (hcell j (by omega)).1]
    simp
end
end Go.Proofs.YticoaioeeppapaaGreatDoor
end

section
/- The eleventh layer's laws: awake. -/
namespace Go.Proofs.YticoaioeeppapaaGreatDoor
open Go.RowKit Go.Extern.Stop Go.Stop Go.Extern

theorem formedB_ok {L : List (List Nat)} {k n : Int} (h1 : (L.length : Int) = k) (h2 : ∀ r ∈ L, (r.length : Int) = n) : formedB L k n = true := by
  unfold formedB
  rw [decide_eq_true h1, Bool.true_and, List.all_eq_true]
  exact fun r hr => decide_eq_true (h2 r hr)
/-- Middle, where the rank is full and the source symbols may be. -/
theorem Middle_full {w : World} (k s h l p seed size : Nat) (v : Value) (M : List (List Nat)) (H : OfP k s h l p) (hk1 : 1 ≤ k) (hk2 : k ≤ 128) (hs : seed < 65536) (hz1 : 1 ≤ size) (hz2 : size ≤ 64) (hv : MatAt byteV w v M) (hML : M.length = k) (ho : ∀ r ∈ M, r.length = size ∧ Octets r) (hT : DgTab w) (hB : Tab w) (hf : rankA k s h l p seed (List.range k) = l) :
    Calls Tryz.prog 23 #[parV k s h l p, .int .i64 (seed : Int), v, .int .i64 (size : Int)] w fun e w' => ∃ v' V, e = .returned (.tuple #[v', .nilIface]) ∧ MatFresh byteV 5 w.heap.size 52 w' v' V ∧ Tells l size (sysE k s h l p seed size (fun t => M.getD t []) k) V ∧ Cons l (sysE k s h l p seed size (fun t => M.getD t []) k) ∧ Below w.heap.size w w' := by
  refine (Middle_ok k s h l p seed size v M H hk1 hk2 hs hz1 hz2 hv (fun r hr => (ho r hr).2) hT hB).mono ?_
  rintro e w' (⟨-, -, h3⟩ | ⟨-, h2, -⟩ | ⟨h1, -⟩)
  · exact h3
  · exact absurd hf h2
  · rw [formedB_ok (by omega) fun r hr => by rw [(ho r hr).1]] at h1
    cases h1
theorem tells_want {k s h l p seed size : Nat} {S V : List (List Nat)} (hl : l = k + s + h) (hT : Tells l size (sysE k s h l p seed size (fun t => S.getD t []) k) V) (hc : Cons l (sysE k s h l p seed size (fun t => S.getD t []) k)) (hS : S.length = k) (hr : ∀ r ∈ S, r.length = size ∧ Octets r) :
    ∀ i, i < s + h + k → sumS size (((rowsA k s h l p seed (List.range k)).getD i []).map fun c => V.getD c []) = wantH s h size S i := fun i hi => by
  have h0 := rowsF0_length k s h
  unfold wantH
  by_cases hj : i < s + h
  · rw [if_pos hj]
    have e : (rowsA k s h l p seed (List.range k)).getD i [] = (rowsF0 k s h).getD i [] := by
      unfold rowsA
      rw [List.getD_eq_getElem?_getD, List.getElem?_append_left (by omega), List.getD_eq_getElem?_getD]
    rw [e]
    have hg := rowsF0_getD (k := k) (s := s) (h := h) (i := i) (by omega) _ rfl
    exact hT.holds hc (by rw [hl]; exact hg.1) hg.2 List.length_replicate (octets_zero size) (.mem (List.mem_append_left _ (mem_sysF hj)))
  · rw [if_neg hj]
    obtain ⟨t, rfl⟩ : ∃ t, i = s + h + t := ⟨i - (s + h), by omega⟩
    have htk : t < k := by omega
    have e : (rowsA k s h l p seed (List.range k)).getD (s + h + t) [] = rowE l p seed t := by
      unfold rowsA
      rw [List.getD_eq_getElem?_getD, List.getElem?_append_right (by omega), h0, show s + h + t - (s + h) = t by omega, List.getElem?_map, List.getElem?_range htk]
      rfl
    rw [e, show s + h + t - s - h = t by omega]
    have hm : S.getD t [] ∈ S := getD_mem_row (by omega)
    exact hT.holds hc rowE_lt (rowE_nodup _ _ _ _) (hr _ hm).1 (hr _ hm).2 (.mem (mem_sysE (src := fun t => S.getD t []) htk))
theorem bmat_one {w : World} {x : Value} {r : List Nat} (h : ListAt byteV w x r) : MatAt byteV (w.alloc (.cells #[x] 52)) (.slice (some ⟨w.heap.size, 0, none⟩) 1 1) [r] := by
  have hb : Below w.heap.size w (w.alloc (.cells #[x] 52)) := (Below.refl _ _).alloc (Nat.le_refl _) _
  refine ⟨[x], ListAt.of_owns (f := id) (base := w.heap.size) (n := 1) (e := 52) (own_of_heap (Nat.le_refl _) rfl (by decide) (heap_alloc_new w (.cells #[x] 52))), rfl, fun i => ?_⟩
  cases i with
  | zero => exact h.mono hb
  | succ i => exact ListAt.nil _ _

theorem rOf_one {w : World} : Calls Tryz.prog 19 #[.int .i64 1] w fun e w' => e = .returned (.agg #[.int .i64 1, .int .i64 3, .int .i64 4, .int .i64 8, .int .i64 11]) ∧ Below w.heap.size w w' := by
  refine (rOf_any 1 (by decide) (by decide)).mono ?_
  rintro e w' ⟨s', h', l', p', rfl, hof, hb⟩
  obtain ⟨rfl, rfl, rfl, rfl⟩ := hof.unique of1
  exact ⟨rfl, hb⟩
theorem Seed_one {w : World} (hT : DgTab w) (hB : Tab w) : Calls Tryz.prog 17 #[.int .i64 1] w fun e w' => ∃ sd : Nat, e = .returned (.tuple #[.int .i64 (sd : Int), .nilIface]) ∧ IsSeed 1 3 4 8 11 sd ∧ Below w.heap.size w w' := by
  refine (Seed_ok 1 (by decide) (by decide) hT hB).mono ?_
  rintro e w' ⟨s, h, l, p, sd, rfl, hof, hs, hb⟩
  obtain ⟨rfl, rfl, rfl, rfl⟩ := hof.unique of1
  exact ⟨sd, rfl, hs, hb⟩

theorem ones_at (w3 : World) : MatAt byteV ((w3.alloc (.cells #[.int .u8 1] 5)).alloc (.cells #[.slice (some ⟨w3.heap.size, 0, none⟩) 1 1] 52)) (.slice (some ⟨w3.heap.size + 1, 0, none⟩) 1 1) [[1]] := by
  have := bmat_one (ListAt.of_owns (f := byteV) (l := [1]) (own_of_heap (base := w3.heap.size) (e := 5) (Nat.le_refl _) rfl (by decide) (heap_alloc_new w3 (.cells #[.int .u8 1] 5))))
  simpa using this
theorem ones_row : ∀ r ∈ [[1]], r.length = 1 ∧ Octets r := fun r hr => by
  rw [List.mem_singleton.1 hr]
  exact ⟨rfl, fun x hx => by rw [List.mem_singleton.1 hx]; decide⟩
theorem ones_below (w3 : World) : Below w3.heap.size w3 ((w3.alloc (.cells #[.int .u8 1] 5)).alloc (.cells #[.slice (some ⟨w3.heap.size, 0, none⟩) 1 1] 52)) := ((Below.refl _ _).alloc (Nat.le_refl _) _).alloc (by simp) _

set_option maxRecDepth 1000000 in
set_option maxHeartbeats 4000000 in
theorem awake11 (w : World) (hT : DgTab w) (hB : Tab w) : Calls Tryz.prog 9 #[] w fun e w' => e = .returned (.bool true) ∧ Below w.heap.size w w' := by
  have HT := Lib.hid hT
  have HBT := Lib.hid hB
  clear hT hB
  go_enter Tryz.func9, Tryz.ntmps9
  go_wp2_with fail
  refine rOf_one.mono ?_
  rintro e w1 ⟨rfl, hb1⟩
  obtain ⟨W, hW, hbW, hby⟩ := par_laid w1 1 3 4 8 11
  have HW := Lib.hid hW
  have HB1 := Lib.hid (hb1.trans (hbW.mono hb1.size))
  have HX1 := Lib.hid hby
  clear hW hbW hby hb1
  go_upto_region 2 with fail
  rw [← HW.out]
  obtain ⟨g1, hg1⟩ : ∃ g1, w1.heap.size = g1 := ⟨_, rfl⟩
  rw [hg1] at HX1 ⊢
  clear hg1
  go_wp2_with fail
  refine (Seed_one (PairsAt.mono HT.out HB1.out) (HBT.out.mono HB1.out)).mono ?_
  rintro e w2 ⟨sd, rfl, hsd, hb2⟩
  have HSD := Lib.hid hsd
  have HX2 := Lib.hid (HX1.out.mono hb2)
  have HB2 := Lib.hid (HB1.out.trans (hb2.mono HB1.out.size))
  have hba : Below w2.heap.size w2 (w2.alloc (.cells #[.int .i64 0] 3)) := (Below.refl _ _).alloc (Nat.le_refl _) _
  have hl0 : ListAt colV (w2.alloc (.cells #[.int .i64 0] 3)) (.slice (some ⟨w2.heap.size, 0, none⟩) 1 1) (List.range 1) := ListAt.of_owns (f := colV) (l := List.range 1) (own_of_heap (base := w2.heap.size) (e := 3) (Nat.le_refl _) rfl (by decide) (heap_alloc_new w2 (.cells #[.int .i64 0] 3)))
  have HRK : Hid (Calls Tryz.prog 11 #[.agg #[.int .i64 1, .int .i64 3, .int .i64 4, .int .i64 8, .int .i64 11], .int .i64 (sd : Int), .slice (some ⟨w2.heap.size, 0, none⟩) 1 1] (w2.alloc (.cells #[.int .i64 0] 3)) fun e w' => e = .returned (.tuple #[.int .i64 8, .nilIface]) ∧ Below w2.heap.size w2 w') := Lib.hid (by
    refine (sRank_ok 1 3 4 8 11 sd _ (List.range 1) of1 (by decide) (by decide) hsd.1 hl0 (range_lt 1 (by decide)) (by decide) (PairsAt.mono HT.out (HB2.out.trans (hba.mono HB2.out.size))) (HBT.out.mono (HB2.out.trans (hba.mono HB2.out.size)))).mono ?_
    rintro e w' ⟨rfl, hb⟩
    rw [hsd.2.1]
    exact ⟨rfl, hba.trans (hb.mono hba.size)⟩)
  obtain ⟨c0, c1, c2, c3, c4⟩ := HX2.out.cells
  have hsd65 := hsd.1
  clear hsd hb2 hl0 hba
  go_wp2_with fail
  refine HRK.out.mono ?_
  rintro e w3 ⟨rfl, hb3⟩
  have HX3 := Lib.hid (HX2.out.mono hb3)
  have HB3 := Lib.hid (HB2.out.trans (hb3.mono HB2.out.size))
  have hbm := ones_below w3
  have HBM := Lib.hid (HB3.out.trans (hbm.mono HB3.out.size))
  have HMI := Lib.hid (Middle_full 1 3 4 8 11 sd 1 _ [[1]] of1 (by decide) (by decide) hsd65 (by decide) (by decide) (ones_at w3) rfl ones_row (PairsAt.mono HT.out HBM.out) (HBT.out.mono HBM.out) HSD.out.2.1)
  clear c0 c1 c2 c3 c4
  obtain ⟨c0, c1, c2, c3, c4⟩ := HX3.out.cells
  clear hb3 hbm
  unfold parV parC at HMI
  go_wp2_with fail
  refine HMI.out.mono ?_
  rintro e w5 ⟨v5, V, rfl, hm5, ht5, hc5, hb5⟩
  have HX5 := Lib.hid (HX3.out.mono ((ones_below w3).trans (hb5.mono (ones_below w3).size)))
  have HB5 := Lib.hid (HBM.out.trans (hb5.mono HBM.out.size))
  have HBM5 := Lib.hid (HB5.out.trans ((ones_below w5).mono HB5.out.size))
  have HHO := Lib.hid (Holds_any 1 3 4 8 11 sd 1 _ v5 [[1]] V of1 (by decide) (by decide) hsd65 (by decide) (by decide) (ones_at w5) rfl (hm5.own.at.mono (ones_below w5)) ht5.1 ht5.row (tells_want of1.2.2.1 ht5 hc5 rfl ones_row))
  unfold parV parC at HHO
  clear c0 c1 c2 c3 c4
  obtain ⟨c0, c1, c2, c3, c4⟩ := HX5.out.cells
  obtain ⟨a5, q5, rfl, -, -, -⟩ := hm5.own.at.opens
  clear hm5 ht5 hc5 hb5
  go_wp2_with fail
  refine HHO.out.mono ?_
  rintro e w6 ⟨rfl, hb6⟩
  have HB6 := Lib.hid (HBM5.out.trans (hb6.mono HBM5.out.size))
  clear hb6
  go_wp2
  go_ret
  exact ⟨rfl, HB6.out⟩
end Go.Proofs.YticoaioeeppapaaGreatDoor
end

section
/- The eleventh layer's laws: tells. -/
namespace Go.Proofs.YticoaioeeppapaaGreatDoor
open Go.RowKit Go.Extern.Stop Go.Stop Go.Extern

theorem tells_nil {w : World} (c : ByteArray) : Calls Tryz.prog 13 #[.nilIface, .int .i64 0, .string c] w fun e w' => e = .returned (.bool true) ∧ w = w' := by
  go_enter Tryz.func13, Tryz.ntmps13
  go_wp2
  go_ret
  exact ⟨rfl, rfl⟩

set_option maxRecDepth 1000000 in
set_option maxHeartbeats 1000000 in
theorem tells_some {w : World} (n : Int) (hn : n ≠ 0) (c : ByteArray) (ls : List ByteArray) (E : Value) (h : Chain w n (c :: ls) E) (hg : Laid w) :
    Calls Tryz.prog 13 #[E, .int .i64 n, .string c] w fun e w' => e = .returned (.bool true) ∧ Below w.heap.size w w' := by
  have hnb : (n == 0) = false := by simpa using hn
  have HC := Lib.hid h
  cases h with
  | wrap b _ E1 l hc he h1 =>
  have hbl : b < w.heap.size := World.block_lt_of_cell? w ⟨b, 0, none⟩ hc
  have HCC := Lib.hid hc
  have HG := Lib.hid hg
  have hB : Below w.heap.size w ((w.alloc (.cells #[.int .i64 0] 67)).alloc (.cells #[.pointer none] 69)) := ((Below.refl _ _).alloc (Nat.le_refl _) _).alloc (by simp) _
  have HB := Lib.hid hB
  clear hg hc he h1 hB hn
  go_enter Tryz.func13, Tryz.ntmps13
  go_wp2_with fail
  refine (As_num n ⟨w.heap.size, 0, none⟩ (.int .i64 0) _ _ (HC.out.mono HB.out) (by simp) (by simp) (HG.out.mono HB.out)).mono ?_
  rintro e w' ⟨rfl, w1, hb1, rfl⟩
  have hs1 : w.heap.size + 2 ≤ w1.heap.size := by have := hb1.size; simp at this; omega
  have HB1 := Lib.hid ((HB.out.trans (hb1.mono (by simp; omega))).setCell (p := ⟨w.heap.size, 0, none⟩) (Nat.le_refl _) (.int .i64 n))
  have hn1 : w1.cell? ⟨w.heap.size, 0, none⟩ = some (.int .i64 0) := by rw [hb1.cell (p := ⟨w.heap.size, 0, none⟩) (by simp; omega)]; simp
  have hf1 : w1.cell? ⟨w.heap.size + 1, 0, none⟩ = some (.pointer none) := by rw [hb1.cell (p := ⟨w.heap.size + 1, 0, none⟩) (by simp)]; simp
  have hff1 : w1.frozen? ⟨w.heap.size + 1, 0, none⟩ = false := by rw [hb1.frozen (p := ⟨w.heap.size + 1, 0, none⟩) (by simp)]; simp
  have hn2 : (w1.setCell ⟨w.heap.size, 0, none⟩ (.int .i64 n)).cell? ⟨w.heap.size, 0, none⟩ = some (.int .i64 n) := World.cell?_setCell_same' _ _ _ (by rw [hn1]; rfl)
  have hf2 : (w1.setCell ⟨w.heap.size, 0, none⟩ (.int .i64 n)).cell? ⟨w.heap.size + 1, 0, none⟩ = some (.pointer none) := (World.cell?_setCell_other _ _ _ _ (by simp)).trans hf1
  have hff2 : (w1.setCell ⟨w.heap.size, 0, none⟩ (.int .i64 n)).frozen? ⟨w.heap.size + 1, 0, none⟩ = false := by rw [World.frozen?_setCell]; exact hff1
  have hs2 : w.heap.size + 2 ≤ (w1.setCell ⟨w.heap.size, 0, none⟩ (.int .i64 n)).heap.size := by simpa using hs1
  clear hn1 hf1 hff1 hs1 hb1
  generalize w1.setCell ⟨w.heap.size, 0, none⟩ (.int .i64 n) = w2 at *
  have HC2 := Lib.hid ((HB1.out.cell (p := ⟨b, 0, none⟩) hbl).trans HCC.out)
  have HF2 := Lib.hid hf2
  have HFF2 := Lib.hid hff2
  have HN2 := Lib.hid hn2
  clear hf2 hff2 hn2
  go_wp2_with fail
  refine (As_fault ⟨w.heap.size + 1, 0, none⟩ ⟨b, 0, none⟩ (.pointer none) HF2.out HFF2.out (HG.out.mono HB1.out)).mono ?_
  rintro e w' ⟨rfl, w3, hb3, rfl⟩
  have HB3 := Lib.hid ((HB1.out.trans (hb3.mono (by omega))).setCell (p := ⟨w.heap.size + 1, 0, none⟩) (by simp) (.pointer (some ⟨b, 0, none⟩)))
  have hf3 : w3.cell? ⟨w.heap.size + 1, 0, none⟩ = some (.pointer none) := by rw [hb3.cell (p := ⟨w.heap.size + 1, 0, none⟩) (by simp; omega)]; exact HF2.out
  have hn3 : (w3.setCell ⟨w.heap.size + 1, 0, none⟩ (.pointer (some ⟨b, 0, none⟩))).cell? ⟨w.heap.size, 0, none⟩ = some (.int .i64 n) := 
    (World.cell?_setCell_other _ _ _ _ (by simp)).trans ((hb3.cell (p := ⟨w.heap.size, 0, none⟩) (by simp; omega)).trans HN2.out)
  have hf4 : (w3.setCell ⟨w.heap.size + 1, 0, none⟩ (.pointer (some ⟨b, 0, none⟩))).cell? ⟨w.heap.size + 1, 0, none⟩ = some (.pointer (some ⟨b, 0, none⟩)) := World.cell?_setCell_same' _ _ _ (by rw [hf3]; rfl)
  have hc4 : (w3.setCell ⟨w.heap.size + 1, 0, none⟩ (.pointer (some ⟨b, 0, none⟩))).cell? ⟨b, 0, none⟩ = some (.string c) := (HB3.out.cell (p := ⟨b, 0, none⟩) hbl).trans HCC.out
  clear hf3 hb3
  generalize w3.setCell ⟨w.heap.size + 1, 0, none⟩ (.pointer (some ⟨b, 0, none⟩)) = w4 at *
  have hnn : (n == n) = true := by simp
  go_wp2
  go_ret
  exact ⟨rfl, HB3.out⟩


/-- tells, of what a function of the package says: it is the document's. -/
theorem tells_ans {w : World} (k : Int) (c : ByteArray) (E : Value) (h : ErrAns k c w E) (hg : Laid w) :
    Calls Tryz.prog 13 #[E, .int .i64 k, .string c] w fun e w' => e = .returned (.bool true) ∧ Below w.heap.size w w' := by
  rcases h with ⟨rfl, rfl⟩ | ⟨hk, ls, hc⟩
  · refine (tells_nil c).mono ?_
    rintro e w' ⟨rfl, rfl⟩
    exact ⟨rfl, Below.refl _ _⟩
  · exact tells_some k hk c ls E hc hg

end Go.Proofs.YticoaioeeppapaaGreatDoor
end
