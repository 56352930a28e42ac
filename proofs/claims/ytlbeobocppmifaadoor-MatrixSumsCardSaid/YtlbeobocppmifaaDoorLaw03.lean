/- The helpers of the third layer's laws: big, tells, awake. -/
import Derived.Test.YtlbeobocppmifaaDoorMxF
import Derived.Test.YtlbeobocppmifaaDoorMxRefE
namespace Go.Proofs.YtlbeobocppmifaaDoor
open Go.RowKit Go.Extern.Stop Go.Stop Go.Extern

theorem tells_nil {w : World} (c : ByteArray) : Calls Tryd.prog 12 #[.nilIface, .int .i64 0, .string c] w fun e w' => e = .returned (.bool true) ∧ w = w' := by
  go_enter Tryd.func12, Tryd.ntmps12
  go_wp2
  go_ret
  exact ⟨rfl, rfl⟩

set_option maxRecDepth 1000000 in
set_option maxHeartbeats 1000000 in
theorem tells_some {w : World} (n : Int) (hn : n ≠ 0) (c : ByteArray) (ls : List ByteArray) (E : Value) (h : Chain w n (c :: ls) E) (hg : Laid w) :
    Calls Tryd.prog 12 #[E, .int .i64 n, .string c] w fun e w' => e = .returned (.bool true) ∧ Below w.heap.size w w' := by
  have hnb : (n == 0) = false := by simpa using hn
  have HC := Lib.hid h
  cases h with
  | wrap b _ E1 l hc he h1 =>
  have hbl : b < w.heap.size := World.block_lt_of_cell? w ⟨b, 0, none⟩ hc
  have HCC := Lib.hid hc
  have HG := Lib.hid hg
  have hB : Below w.heap.size w ((w.alloc (.cells #[.int .i64 0] 52)).alloc (.cells #[.pointer none] 53)) := ((Below.refl _ _).alloc (Nat.le_refl _) _).alloc (by simp) _
  have HB := Lib.hid hB
  clear hg hc he h1 hB hn
  go_enter Tryd.func12, Tryd.ntmps12
  go_wp2_with fail
  refine (As_num n ⟨w.heap.size, 0, none⟩ (.int .i64 0) _ _ (HC.out.mono HB.out) (by simp) (by simp) (HG.out.mono HB.out)).mono ?_
  rintro e w' ⟨rfl, w1, hb1, rfl⟩
  have hs1 : w.heap.size + 2 ≤ w1.heap.size := by have := hb1.size; simp at this; omega
  have HB1 := Lib.hid ((HB.out.trans (hb1.mono (by simp; omega))).setCell (p := ⟨w.heap.size, 0, none⟩) (Nat.le_refl _) (.int .i64 n))
  have hn1 : w1.cell? ⟨w.heap.size, 0, none⟩ = some (.int .i64 0) := by rw [hb1.cell (p := ⟨w.heap.size, 0, none⟩) (by simp; omega)]; simp
  have hf1 : w1.cell? ⟨w.heap.size + 1, 0, none⟩ = some (.pointer none) := by rw [hb1.cell (p := ⟨w.heap.size + 1, 0, none⟩) (by simp)]; simp
  have hff1 : w1.frozen? ⟨w.heap.size + 1, 0, none⟩ = false := by rw [hb1.frozen (p := ⟨w.heap.size + 1, 0, none⟩) (by simp)]; simp
  have hn2 : (w1.setCell ⟨w.heap.size, 0, none⟩ (.int .i64 n)).cell? ⟨w.heap.size, 0, none⟩ = some (.int .i64 n) := World.cell?_setCell_same' _ _ _ (by rw [hn1]; rfl)
  have hf2 : (w1.setCell ⟨w.heap.size, 0, none⟩ (.int .i64 n)).cell? ⟨w.heap.size + 1, 0, none⟩ = some (.pointer none) := (World.cell?_setCell_other _ _ _ _ (by simp)).trans hf1
  have hff2 : (w1.setCell ⟨w.heap.size, 0, none⟩ (.int .i64 n)).frozen? ⟨w.heap.size + 1, 0, none⟩ = false := by rw [World.frozen?_setCell]; exact hff1
  have hs2 : w.heap.size + 2 ≤ (w1.setCell ⟨w.heap.size, 0, none⟩ (.int .i64 n)).heap.size := by simpa using hs1
  clear hn1 hf1 hff1 hs1 hb1
  generalize w1.setCell ⟨w.heap.size, 0, none⟩ (.int .i64 n) = w2 at *
  have HC2 := Lib.hid ((HB1.out.cell (p := ⟨b, 0, none⟩) hbl).trans HCC.out)
  have HF2 := Lib.hid hf2
  have HFF2 := Lib.hid hff2
  have HN2 := Lib.hid hn2
  clear hf2 hff2 hn2
  go_wp2_with fail
  refine (As_fault ⟨w.heap.size + 1, 0, none⟩ ⟨b, 0, none⟩ (.pointer none) HF2.out HFF2.out (HG.out.mono HB1.out)).mono ?_
  rintro e w' ⟨rfl, w3, hb3, rfl⟩
  have HB3 := Lib.hid ((HB1.out.trans (hb3.mono (by omega))).setCell (p := ⟨w.heap.size + 1, 0, none⟩) (by simp) (.pointer (some ⟨b, 0, none⟩)))
  have hf3 : w3.cell? ⟨w.heap.size + 1, 0, none⟩ = some (.pointer none) := by rw [hb3.cell (p := ⟨w.heap.size + 1, 0, none⟩) (by simp; omega)]; exact HF2.out
  have hn3 : (w3.setCell ⟨w.heap.size + 1, 0, none⟩ (.pointer (some ⟨b, 0, none⟩))).cell? ⟨w.heap.size, 0, none⟩ = some (.int .i64 n) := 
    (World.cell?_setCell_other _ _ _ _ (by simp)).trans ((hb3.cell (p := ⟨w.heap.size, 0, none⟩) (by simp; omega)).trans HN2.out)
  have hf4 : (w3.setCell ⟨w.heap.size + 1, 0, none⟩ (.pointer (some ⟨b, 0, none⟩))).cell? ⟨w.heap.size + 1, 0, none⟩ = some (.pointer (some ⟨b, 0, none⟩)) := World.cell?_setCell_same' _ _ _ (by rw [hf3]; rfl)
  have hc4 : (w3.setCell ⟨w.heap.size + 1, 0, none⟩ (.pointer (some ⟨b, 0, none⟩))).cell? ⟨b, 0, none⟩ = some (.string c) := (HB3.out.cell (p := ⟨b, 0, none⟩) hbl).trans HCC.out
  clear hf3 hb3
  generalize w3.setCell ⟨w.heap.size + 1, 0, none⟩ (.pointer (some ⟨b, 0, none⟩)) = w4 at *
  have hnn : (n == n) = true := by simp
  go_wp2
  go_ret
  exact ⟨rfl, HB3.out⟩


/-- tells, of what a function of the package says: it is the document's. -/
theorem tells_ans {w : World} (k : Int) (c : ByteArray) (E : Value) (h : ErrAns k c w E) (hg : Laid w) :
    Calls Tryd.prog 12 #[E, .int .i64 k, .string c] w fun e w' => e = .returned (.bool true) ∧ Below w.heap.size w w' := by
  rcases h with ⟨rfl, rfl⟩ | ⟨hk, ls, hc⟩
  · refine (tells_nil c).mono ?_
    rintro e w' ⟨rfl, rfl⟩
    exact ⟨rfl, Below.refl _ _⟩
  · exact tells_some k hk c ls E hc hg

def bigB (L : List (List Nat)) (n : Int) : Bool := (decide (20 < L.length) && decide (L.length ≤ 4096)) || (decide (200 < n) && decide (n ≤ 4096))
theorem big_any {w : World} (v : Value) (L : List (List Nat)) (n : Int) (h : MatAt wordV w v L) :
    Calls Tryd.prog 10 #[v, .int .i64 n] w fun e w' => e = .returned (.bool (bigB L n)) ∧ w = w' := by
  have hlen := h.len
  obtain ⟨a, cap, rfl, -, -, -⟩ := h.opens
  clear h
  have HR : Hid (∀ b1 b2 b3 b4, decide (20 < L.length) = b1 → decide (L.length ≤ 4096) = b2 → decide (200 < n) = b3 → decide (n ≤ 4096) = b4 → bigB L n = ((b1 && b2) || (b3 && b4))) := Lib.hid fun b1 b2 b3 b4 e1 e2 e3 e4 => by unfold bigB; rw [e1, e2, e3, e4]
  generalize bigB L n = R at *
  generalize L.length = m at *
  by_cases h1 : 20 < m
  · have h1' : (20 : Int) < (m : Int) := by omega
    by_cases h2 : m ≤ 4096
    · have h2' : (m : Int) ≤ 4096 := by omega
      have HB : Hid (R = true) := Lib.hid (by rw [HR.out true true _ _ (decide_eq_true h1) (decide_eq_true h2) rfl rfl]; rfl)
      clear HR
      go_enter Tryd.func10, Tryd.ntmps10
      go_wp2
      go_ret
      exact ⟨by rw [HB.out]; rfl, rfl⟩
    · have h2' : (4096 : Int) < (m : Int) := by omega
      have hd2 : decide ((m : Int) ≤ 4096) = false := decide_eq_false (by omega)
      by_cases h3 : 200 < n
      · by_cases h4 : n ≤ 4096
        · have HB : Hid (R = true) := Lib.hid (by rw [HR.out true false true true (decide_eq_true h1) (decide_eq_false h2) (decide_eq_true h3) (decide_eq_true h4)]; rfl)
          clear HR
          go_enter Tryd.func10, Tryd.ntmps10
          go_wp2
          go_ret
          exact ⟨by rw [HB.out]; rfl, rfl⟩
        · have HB : Hid (R = false) := Lib.hid (by rw [HR.out true false true false (decide_eq_true h1) (decide_eq_false h2) (decide_eq_true h3) (decide_eq_false h4)]; rfl)
          clear HR
          go_enter Tryd.func10, Tryd.ntmps10
          go_wp2
          go_ret
          exact ⟨by rw [HB.out]; rfl, rfl⟩
      · have HB : Hid (R = false) := Lib.hid (by rw [HR.out true false false _ (decide_eq_true h1) (decide_eq_false h2) (decide_eq_false h3) rfl]; rfl)
        clear HR
        go_enter Tryd.func10, Tryd.ntmps10
        go_wp2
        go_ret
        exact ⟨by rw [HB.out]; rfl, rfl⟩
  · have h1' : (m : Int) ≤ 20 := by omega
    by_cases h3 : 200 < n
    · by_cases h4 : n ≤ 4096
      · have HB : Hid (R = true) := Lib.hid (by rw [HR.out false _ true true (decide_eq_false h1) rfl (decide_eq_true h3) (decide_eq_true h4)]; cases decide (m ≤ 4096) <;> rfl)
        clear HR
        go_enter Tryd.func10, Tryd.ntmps10
        go_wp2
        go_ret
        exact ⟨by rw [HB.out]; rfl, rfl⟩
      · have HB : Hid (R = false) := Lib.hid (by rw [HR.out false _ true false (decide_eq_false h1) rfl (decide_eq_true h3) (decide_eq_false h4)]; cases decide (m ≤ 4096) <;> rfl)
        clear HR
        go_enter Tryd.func10, Tryd.ntmps10
        go_wp2
        go_ret
        exact ⟨by rw [HB.out]; rfl, rfl⟩
    · have HB : Hid (R = false) := Lib.hid (by rw [HR.out false _ false _ (decide_eq_false h1) rfl (decide_eq_false h3) rfl]; cases decide (m ≤ 4096) <;> rfl)
      clear HR
      go_enter Tryd.func10, Tryd.ntmps10
      go_wp2
      go_ret
      exact ⟨by rw [HB.out]; rfl, rfl⟩

/-- What is not too great, and is a matrix, is small. -/
theorem small_of {L : List (List Nat)} {n : Nat} (h : bigB L (n : Int) = false) (hm : MatOk L n) : L.length ≤ 20 ∧ n ≤ 200 := by
  unfold bigB at h
  have h1 := hm.rows
  have h2 := hm.cols
  simp only [Bool.or_eq_false_iff, Bool.and_eq_false_iff, decide_eq_false_iff_not] at h
  omega

/-! ### awake -/
theorem ex_ok : MatOk [[6], [3], [5]] 3 := by
  have h : ∀ r ∈ [[6], [3], [5]], wholeB 3 r = true := by decide +kernel
  exact ⟨by decide, by decide, by unfold Word; decide +kernel, fun r hr => wholeB_iff.1 (h r hr)⟩
theorem ex_vecs : vecs [[6], [3], [5]] = [bitW [6], bitW [3], bitW [5]] := rfl
theorem ex_0 : ¬ Sp [] (bitW [6]) := fun h => by
  have := congrFun (Sp_nil h) 1
  have h1 : bitW [6] 1 = true := by decide +kernel
  rw [h1] at this
  cases this
theorem ex_1 : ¬ Sp [bitW [6]] (bitW [3]) := fun h => by
  have h1 : bitW [3] 0 = true := by decide +kernel
  have h2 : bitW [6] 0 = false := by decide +kernel
  rcases Sp_cons h with h | h
  · have := congrFun (Sp_nil h) 0
    rw [h1] at this; cases this
  · have := congrFun (Sp_nil h) 0
    simp only [vadd, h1, h2, vzero] at this
    cases this
theorem ex_2 : Sp [bitW [6], bitW [3]] (bitW [5]) := by
  have e : bitW [5] = vadd (bitW [6]) (bitW [3]) := by
    rw [← bitW_vadd (a := [6]) (b := [3]) rfl]; rfl
  rw [e]
  exact (Sp.mem (by simp)).add (.mem (by simp))
theorem ex_picks : picksTo (vecs [[6], [3], [5]]) 3 = [0, 1] := by
  rw [ex_vecs, picksTo_in (l := [bitW [6], bitW [3], bitW [5]]) (k := 2) ex_2, picksTo_out (l := [bitW [6], bitW [3], bitW [5]]) (k := 1) ex_1, picksTo_out (l := [bitW [6], bitW [3], bitW [5]]) (k := 0) ex_0]
  rfl
theorem ex_rank : rk (vecs [[6], [3], [5]]) = 2 := by
  have := picksTo_length (vecs [[6], [3], [5]]) 3 (Nat.le_refl _)
  rw [ex_picks] at this
  exact this.symm

theorem lit_row (w : World) (x : Nat) : ListAt wordV (w.alloc (.cells #[.int .u64 (x : Int)] 46)) (.slice (some ⟨w.heap.size, 0, none⟩) 1 1) [x] :=
  ⟨_, 1, rfl, Nat.le_refl _, by decide, fun _ => ⟨_, 0, rfl, fun j hj => by
    have : j = 0 := by simp at hj; omega
    subst this
    simp [wordV]⟩⟩

theorem lit_mat (w : World) : MatAt wordV ((((w.alloc (.cells #[.int .u64 6] 46)).alloc (.cells #[.int .u64 3] 46)).alloc (.cells #[.int .u64 5] 46)).alloc
    (.cells #[.slice (some ⟨w.heap.size, 0, none⟩) 1 1, .slice (some ⟨w.heap.size + 1, 0, none⟩) 1 1, .slice (some ⟨w.heap.size + 1 + 1, 0, none⟩) 1 1] 37)) (.slice (some ⟨w.heap.size + 1 + 1 + 1, 0, none⟩) 3 3) [[6], [3], [5]] := by
  have a1 := lit_row w 6
  have a2 := lit_row (w.alloc (.cells #[.int .u64 6] 46)) 3
  have a3 := lit_row ((w.alloc (.cells #[.int .u64 6] 46)).alloc (.cells #[.int .u64 3] 46)) 5
  rw [World.size_alloc] at a2
  rw [World.size_alloc, World.size_alloc] at a3
  have b : ∀ (W : World) (o : Obj), Below W.heap.size W (W.alloc o) := fun W o => (Below.refl _ _).alloc (Nat.le_refl _) o
  refine ⟨[.slice (some ⟨w.heap.size, 0, none⟩) 1 1, .slice (some ⟨w.heap.size + 1, 0, none⟩) 1 1, .slice (some ⟨w.heap.size + 1 + 1, 0, none⟩) 1 1], ⟨_, 3, rfl, Nat.le_refl _, by decide, fun _ => ⟨_, 0, rfl, fun j hj => ?_⟩⟩, rfl, fun i => ?_⟩
  · have hh := World.alloc_heap_new (((w.alloc (.cells #[.int .u64 6] 46)).alloc (.cells #[.int .u64 3] 46)).alloc (.cells #[.int .u64 5] 46))
      (.cells #[.slice (some ⟨w.heap.size, 0, none⟩) 1 1, .slice (some ⟨w.heap.size + 1, 0, none⟩) 1 1, .slice (some ⟨w.heap.size + 1 + 1, 0, none⟩) 1 1] 37)
    rw [World.size_alloc, World.size_alloc, World.size_alloc] at hh
    rw [Nat.zero_add, cell_of_row _ _ j _ _ (0, 0) hh]
    match j, hj with
    | 0, _ => rfl
    | 1, _ => rfl
    | 2, _ => rfl
  · match i with
    | 0 => exact ((a1.mono (b _ _)).mono (b _ _)).mono (b _ _)
    | 1 => exact (a2.mono (b _ _)).mono (b _ _)
    | 2 => exact a3.mono (b _ _)
    | i + 3 => exact ListAt.nil _ _

theorem lit_ints (w : World) : ListAt intV (w.alloc (.cells #[.int .i64 0, .int .i64 1] 3)) (.slice (some ⟨w.heap.size, 0, none⟩) 2 2) [0, 1] :=
  ⟨_, 2, rfl, Nat.le_refl _, by decide, fun _ => ⟨_, 0, rfl, fun j hj => by
    match j, hj with
    | 0, _ => simp [intV]
    | 1, _ => simp [intV]⟩⟩

set_option maxRecDepth 1000000 in
set_option maxHeartbeats 1000000 in
theorem awake3 {w : World} (hT : Tab w) : Calls Tryd.prog 11 #[] w fun e w' => e = .returned (.bool true) ∧ Below w.heap.size w w' := by
  have HT := Lib.hid hT
  clear hT
  have HB0 := Lib.hid (((((Below.refl w.heap.size w).alloc (Nat.le_refl _) (.cells #[.int .u64 6] 46)).alloc (by simp) (.cells #[.int .u64 3] 46)).alloc (by simp; omega) (.cells #[.int .u64 5] 46)).alloc (by simp; omega)
    (.cells #[.slice (some ⟨w.heap.size, 0, none⟩) 1 1, .slice (some ⟨w.heap.size + 1, 0, none⟩) 1 1, .slice (some ⟨w.heap.size + 1 + 1, 0, none⟩) 1 1] 37))
  have HM0 := Lib.hid (lit_mat w)
  go_enter Tryd.func11, Tryd.ntmps11
  go_wp2_with fail
  refine (Rank_ok _ [[6], [3], [5]] 3 HM0.out ex_ok (HT.out.mono HB0.out)).mono ?_
  rintro e w1 ⟨rfl, hb1⟩
  rw [ex_rank]
  have HB1 := Lib.hid (HB0.out.trans (hb1.mono HB0.out.size))
  have hsz1 := HB1.out.size
  clear hb1
  have HBA := Lib.hid (((((Below.refl w1.heap.size w1).alloc (Nat.le_refl _) (.cells #[.int .u64 6] 46)).alloc (by simp) (.cells #[.int .u64 3] 46)).alloc (by simp; omega) (.cells #[.int .u64 5] 46)).alloc (by simp; omega)
    (.cells #[.slice (some ⟨w1.heap.size, 0, none⟩) 1 1, .slice (some ⟨w1.heap.size + 1, 0, none⟩) 1 1, .slice (some ⟨w1.heap.size + 1 + 1, 0, none⟩) 1 1] 37))
  have HM1 := Lib.hid (lit_mat w1)
  have HB2 := Lib.hid (HB1.out.trans (HBA.out.mono hsz1))
  go_wp2_with fail
  refine (Picks_ok _ [[6], [3], [5]] 3 HM1.out ex_ok (HT.out.mono HB2.out)).mono ?_
  rintro e w2 ⟨pv, rfl, hp, hb2⟩
  rw [show ([[6], [3], [5]] : List (List Nat)).length = 3 from rfl, ex_picks] at hp
  have HB3 := Lib.hid (HB2.out.trans (hb2.mono HB2.out.size))
  have hsz3 := HB3.out.size
  have HBI := Lib.hid ((Below.refl w2.heap.size w2).alloc (Nat.le_refl _) (.cells #[.int .i64 0, .int .i64 1] 3))
  have HP := Lib.hid (hp.cols.mono HBI.out)
  have HI := Lib.hid (lit_ints w2)
  obtain ⟨pa, pc, rfl, -, -, -⟩ := hp
  clear hb2
  go_wp2_with fail
  refine (SameI_any _ _ [0, 1] HP.out HI.out).mono ?_
  rintro e w3 ⟨rfl, hb3⟩
  have HB4 := Lib.hid (HB3.out.trans ((HBI.out.trans (hb3.mono HBI.out.size)).mono hsz3))
  clear hb3
  go_wp2
  go_ret
  exact ⟨rfl, HB4.out⟩
end Go.Proofs.YtlbeobocppmifaaDoor
