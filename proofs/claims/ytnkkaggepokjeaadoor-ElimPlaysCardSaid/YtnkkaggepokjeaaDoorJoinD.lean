import Derived.Test.YtnkkaggepokjeaaDoorElI

section
/- The fifth layer's laws: tells. -/
namespace Go.Proofs.YtnkkaggepokjeaaDoor
open Go.RowKit Go.Extern.Stop Go.Stop Go.Extern

theorem tells_nil {w : World} (c : ByteArray) : Calls Tryd.prog 13 #[.nilIface, .int .i64 0, .string c] w fun e w' => e = .returned (.bool true) ∧ w = w' := by
  go_enter Tryd.func13, Tryd.ntmps13
  go_wp2
  go_ret
  exact ⟨rfl, rfl⟩

set_option maxRecDepth 1000000 in
set_option maxHeartbeats 1000000 in
theorem tells_some {w : World} (n : Int) (hn : n ≠ 0) (c : ByteArray) (ls : List ByteArray) (E : Value) (h : Chain w n (c :: ls) E) (hg : Laid w) :
    Calls Tryd.prog 13 #[E, .int .i64 n, .string c] w fun e w' => e = .returned (.bool true) ∧ Below w.heap.size w w' := by
  have hnb : (n == 0) = false := by simpa using hn
  have HC := Lib.hid h
  cases h with
  | wrap b _ E1 l hc he h1 =>
  have hbl : b < w.heap.size := World.block_lt_of_cell? w ⟨b, 0, none⟩ hc
  have HCC := Lib.hid hc
  have HG := Lib.hid hg
  have hB : Below w.heap.size w ((w.alloc (.cells #[.int .i64 0] 71)).alloc (.cells #[.pointer none] 75)) := ((Below.refl _ _).alloc (Nat.le_refl _) _).alloc (by simp) _
  have HB := Lib.hid hB
  clear hg hc he h1 hB hn
  go_enter Tryd.func13, Tryd.ntmps13
  go_wp2_with fail
  refine (As_num n ⟨w.heap.size, 0, none⟩ (.int .i64 0) _ _ (HC.out.mono HB.out) (by simp) (by simp) (HG.out.mono HB.out)).mono ?_
  rintro e w' ⟨rfl, w1, hb1, rfl⟩
  have hs1 : w.heap.size + 2 ≤ w1.heap.size := by have := hb1.size; simp at this; omega
  have HB1 := Lib.hid ((HB.out.trans (hb1.mono (by simp; omega))).setCell (p := ⟨w.heap.size, 0, none⟩) (Nat.le_refl _) (.int .i64 n))
  have hn1 : w1.cell? ⟨w.heap.size, 0, none⟩ = some (.int .i64 0) := by rw [hb1.cell (p := ⟨w.heap.size, 0, none⟩) (by simp; omega)]; simp
  have hf1 : w1.cell? ⟨w.heap.size + 1, 0, none⟩ = some (.pointer none) := by rw [hb1.cell (p := ⟨w.heap.size + 1, 0, none⟩) (by simp)]; simp
  have hff1 : w1.frozen? ⟨w.heap.size + 1, 0, none⟩ = false := by rw [hb1.frozen (p := ⟨w.heap.size + 1, 0, none⟩) (by simp)]; simp
  have hn2 : (w1.setCell ⟨w.heap.size, 0, none⟩ (.int .i64 n)).cell? ⟨w.heap.size, 0, none⟩ = some (.int .i64 n) := World.cell?_setCell_same' _ _ _ (by rw [hn1]; rfl)
  have hf2 : (w1.setCell ⟨w.heap.size, 0, none⟩ (.int .i64 n)).cell? ⟨w.heap.size + 1, 0, none⟩ = some (.pointer none) := (World.cell?_setCell_other _ _ _ _ (by simp)).trans hf1
  have hff2 : (w1.setCell ⟨w.heap.size, 0, none⟩ (.int .i64 n)).frozen? ⟨w.heap.size + 1, 0, none⟩ = false := by rw [World.frozen?_setCell]; exact hff1
  have hs2 : w.heap.size + 2 ≤ (w1.setCell ⟨w.heap.size, 0, none⟩ (.int .i64 n)).heap.size := by simpa using hs1
  clear hn1 hf1 hff1 hs1 hb1
  generalize w1.setCell ⟨w.heap.size, 0, none⟩ (.int .i64 n) = w2 at *
  have HC2 := Lib.hid ((HB1.out.cell (p := ⟨b, 0, none⟩) hbl).trans HCC.out)
  have HF2 := Lib.hid hf2
  have HFF2 := Lib.hid hff2
  have HN2 := Lib.hid hn2
  clear hf2 hff2 hn2
  go_wp2_with fail
  refine (As_fault ⟨w.heap.size + 1, 0, none⟩ ⟨b, 0, none⟩ (.pointer none) HF2.out HFF2.out (HG.out.mono HB1.out)).mono ?_
  rintro e w' ⟨rfl, w3, hb3, rfl⟩
  have HB3 := Lib.hid ((HB1.out.trans (hb3.mono (by omega))).setCell (p := ⟨w.heap.size + 1, 0, none⟩) (by simp) (.pointer (some ⟨b, 0, none⟩)))
  have hf3 : w3.cell? ⟨w.heap.size + 1, 0, none⟩ = some (.pointer none) := by rw [hb3.cell (p := ⟨w.heap.size + 1, 0, none⟩) (by simp; omega)]; exact HF2.out
  have hn3 : (w3.setCell ⟨w.heap.size + 1, 0, none⟩ (.pointer (some ⟨b, 0, none⟩))).cell? ⟨w.heap.size, 0, none⟩ = some (.int .i64 n) := 
    (World.cell?_setCell_other _ _ _ _ (by simp)).trans ((hb3.cell (p := ⟨w.heap.size, 0, none⟩) (by simp; omega)).trans HN2.out)
  have hf4 : (w3.setCell ⟨w.heap.size + 1, 0, none⟩ (.pointer (some ⟨b, 0, none⟩))).cell? ⟨w.heap.size + 1, 0, none⟩ = some (.pointer (some ⟨b, 0, none⟩)) := World.cell?_setCell_same' _ _ _ (by rw [hf3]; rfl)
  have hc4 : (w3.setCell ⟨w.heap.size + 1, 0, none⟩ (.pointer (some ⟨b, 0, none⟩))).cell? ⟨b, 0, none⟩ = some (.string c) := (HB3.out.cell (p := ⟨b, 0, none⟩) hbl).trans HCC.out
  clear hf3 hb3
  generalize w3.setCell ⟨w.heap.size + 1, 0, none⟩ (.pointer (some ⟨b, 0, none⟩)) = w4 at *
  have hnn : (n == n) = true := by simp
  go_wp2
  go_ret
  exact ⟨rfl, HB3.out⟩


/-- tells, of what a function of the package says: it is the document's. -/
theorem tells_ans {w : World} (k : Int) (c : ByteArray) (E : Value) (h : ErrAns k c w E) (hg : Laid w) :
    Calls Tryd.prog 13 #[E, .int .i64 k, .string c] w fun e w' => e = .returned (.bool true) ∧ Below w.heap.size w w' := by
  rcases h with ⟨rfl, rfl⟩ | ⟨hk, ls, hc⟩
  · refine (tells_nil c).mono ?_
    rintro e w' ⟨rfl, rfl⟩
    exact ⟨rfl, Below.refl _ _⟩
  · exact tells_some k hk c ls E hc hg

end Go.Proofs.YtnkkaggepokjeaaDoor
end

section
/- The fifth layer's laws: awake. -/
namespace Go.Proofs.YtnkkaggepokjeaaDoor
open Go.RowKit Go.Extern.Stop Go.Stop Go.Extern

theorem lit_bytes (w : World) (vs : List Nat) (n : Nat) (hn : vs.length = n) (hm : n ≤ maxLen) : ListAt byteV (w.alloc (.cells (vs.map byteV).toArray 5)) (.slice (some ⟨w.heap.size, 0, none⟩) n n) vs := by
  subst hn
  refine ⟨_, vs.length, rfl, Nat.le_refl _, hm, fun _ => ⟨_, 0, rfl, fun j hj => ?_⟩⟩
  rw [Nat.zero_add, World.cell?_alloc_at _ _ _ _ (by simp)]
  simp [hj]
theorem lit_words (w : World) (vs : List Nat) (n : Nat) (hn : vs.length = n) (hm : n ≤ maxLen) : ListAt wordV (w.alloc (.cells (vs.map wordV).toArray 47)) (.slice (some ⟨w.heap.size, 0, none⟩) n n) vs := by
  subst hn
  refine ⟨_, vs.length, rfl, Nat.le_refl _, hm, fun _ => ⟨_, 0, rfl, fun j hj => ?_⟩⟩
  rw [Nat.zero_add, World.cell?_alloc_at _ _ _ _ (by simp)]
  simp [hj]

/-- A row's words and a symbol, of one each. -/
theorem lit_eq (w : World) (x y : Nat) : ∃ wl, wl = (w.alloc (.cells #[.int .u64 (x : Int)] 47)).alloc (.cells #[.int .u8 (y : Int)] 5) ∧ Below w.heap.size w wl ∧
    ListAt wordV wl (.slice (some ⟨w.heap.size, 0, none⟩) 1 1) [x] ∧ ListAt byteV wl (.slice (some ⟨w.heap.size + 1, 0, none⟩) 1 1) [y] := by
  have h1 := lit_words w [x] 1 rfl (by decide)
  have h2 := lit_bytes (w.alloc (.cells #[.int .u64 (x : Int)] 47)) [y] 1 rfl (by decide)
  rw [World.size_alloc] at h2
  have hb : Below (w.alloc (.cells #[.int .u64 (x : Int)] 47)).heap.size (w.alloc (.cells #[.int .u64 (x : Int)] 47)) ((w.alloc (.cells #[.int .u64 (x : Int)] 47)).alloc (.cells #[.int .u8 (y : Int)] 5)) := (Below.refl _ _).alloc (Nat.le_refl _) _
  exact ⟨_, rfl, ((Below.refl _ _).alloc (Nat.le_refl _) _).alloc (by simp) _, h1.mono hb, h2⟩

theorem bit_high {x c : Nat} (hx : x < 4) (hc : 2 ≤ c) : bitW [x] c = false := by
  unfold bitW
  by_cases h : c / 64 = 0
  · rw [h]
    have : c % 64 = c := by omega
    rw [this]
    exact Nat.testBit_lt_two_pow (Nat.lt_of_lt_of_le hx (by have := Nat.pow_le_pow_right (n := 2) (by decide) hc; simpa using this))
  · rw [List.getD_eq_getElem?_getD, List.getElem?_eq_none (by simp; omega)]; simp
theorem eqOk_two {x y : Nat} (hx : x < 4) (hy : y < 256) : EqOk 2 1 ([x], [y]) :=
  ⟨rfl, fun z hz => by simp at hz; omega, fun c hc => bit_high hx hc, rfl, fun z hz => by simp at hz; omega⟩

abbrev exA : Vec := longV [3] [3] 2
abbrev exB : Vec := longV [1] [1] 2
theorem ex_projA : proj 2 exA = bitW [3] := longV_proj fun c hc => bit_high (by omega) hc
theorem ex_projB : proj 2 exB = bitW [1] := longV_proj fun c hc => bit_high (by omega) hc
theorem ex_k1 : kindV 2 [] exA = 1 := if_neg fun h => by
  have := congrFun (Sp_nil h) 0
  rw [ex_projA] at this
  exact absurd this (by decide)
theorem ex_k2 : kindV 2 ([] ++ [exA]) exB = 1 := if_neg fun h => by
  rw [ex_projB] at h
  rcases Sp_cons (l := []) (r := proj 2 exA) h with h | h
  · exact absurd (congrFun (Sp_nil h) 0) (by decide)
  · have := congrFun (Sp_nil h) 1
    rw [ex_projA] at this
    exact absurd this (by decide)
theorem ex_add1 : addV 2 [] exA = [] ++ [exA] := if_neg (by rw [ex_k1]; decide)
theorem ex_add2 : addV 2 ([] ++ [exA]) exB = [] ++ [exA] ++ [exB] := if_neg (by rw [ex_k2]; decide)
theorem ex_r1 : addR 2 [] exA 0 = 1 := by unfold addR; rw [ex_k1]; rfl
theorem ex_r2 : addR 2 ([] ++ [exA]) exB 1 = 2 := by unfold addR; rw [ex_k2]; rfl
theorem ex_sum : vadd exA exB = longV [2] [2] 2 := longV_add rfl rfl
theorem ex_val : ValV 2 ([] ++ [exA] ++ [exB]) 1 (longV [2] [2] 2) := by
  refine ⟨?_, ?_⟩
  · rw [← ex_sum]
    exact (Sp.mem (by simp)).add (.mem (by simp))
  · rw [longV_proj fun c hc => bit_high (by omega) hc]
    funext c
    by_cases hc : c < 2
    · match c, hc with
      | 0, _ => decide
      | 1, _ => decide
    · rw [bit_high (by omega) (by omega)]
      simp [unitV]; omega
theorem ex_sym : symV 2 1 (longV [2] [2] 2) = [2] := symV_long (row := [2]) (n := 2) (sym := [2]) (by unfold Octets; decide)
theorem ex_str : strN [2] = ⟨#[2]⟩ := by rfl

set_option maxRecDepth 1000000 in
set_option maxHeartbeats 4000000 in
theorem awake5 {w : World} (hT : Tab w) : Calls Tryd.prog 10 #[] w fun e w' => e = .returned (.bool true) ∧ Below w.heap.size w w' := by
  have HT := Lib.hid hT
  clear hT
  go_enter Tryd.func10, Tryd.ntmps10
  go_wp2_with fail
  refine (sysNew 2 1 (by decide) (by decide) (by decide) (by decide)).mono ?_
  rintro e w1 ⟨b, kb, rfl, hs1, hb, hkb, hb1⟩
  have HS1 := Lib.hid hs1
  have HB1 := Lib.hid hb1
  obtain ⟨wl1, hwl1, hbl1, hla1, hlb1⟩ := lit_eq w1 3 3
  have HW1 := Lib.hid hwl1
  have HL1 := Lib.hid hbl1
  have HA1 := Lib.hid hla1
  have HB1' := Lib.hid hlb1
  clear hs1 hb1 hwl1 hbl1 hla1 hlb1
  go_wp2_with fail
  have hz1 : w1.heap.size ≤ wl1.heap.size := HL1.out.size
  rw [show (w1.alloc (.cells #[.int .u64 3] 47)).alloc (.cells #[.int .u8 3] 5) = wl1 from HW1.out.symm]
  refine (sysAdd b 2 1 [] 0 kb _ _ [3] [3] (HS1.out.mono HL1.out) (HT.out.mono (HB1.out.trans (HL1.out.mono HB1.out.size))) HA1.out HB1'.out (eqOk_two (by decide) (by decide))).mono ?_
  rw [ex_k1, ex_add1, ex_r1]
  rintro e w2 ⟨rfl, ht2, hs2⟩
  have HS2 := Lib.hid hs2
  have HB2 : Hid (Below w.heap.size w w2) := Lib.hid ((HB1.out.trans (HL1.out.mono HB1.out.size)).trans (ht2.below hb hkb (Nat.le_trans HB1.out.size hz1)))
  obtain ⟨wl2, hwl2, hbl2, hla2, hlb2⟩ := lit_eq w2 1 1
  have HW2 := Lib.hid hwl2
  have HL2 := Lib.hid hbl2
  have HA2 := Lib.hid hla2
  have HB2' := Lib.hid hlb2
  clear hs2 ht2 hwl2 hbl2 hla2 hlb2 HS1 HW1 HA1 HB1'
  go_wp2_with fail
  have hz2 : w2.heap.size ≤ wl2.heap.size := HL2.out.size
  rw [show (w2.alloc (.cells #[.int .u64 1] 47)).alloc (.cells #[.int .u8 1] 5) = wl2 from HW2.out.symm]
  refine (sysAdd b 2 1 _ 1 kb _ _ [1] [1] (HS2.out.mono HL2.out) (HT.out.mono (HB2.out.trans (HL2.out.mono HB2.out.size))) HA2.out HB2'.out (eqOk_two (by decide) (by decide))).mono ?_
  rw [ex_k2, ex_add2, ex_r2]
  rintro e w3 ⟨rfl, ht3, hs3⟩
  have HS3 := Lib.hid hs3
  have HB3 : Hid (Below w.heap.size w w3) := Lib.hid ((HB2.out.trans (HL2.out.mono HB2.out.size)).trans (ht3.below hb hkb (Nat.le_trans HB2.out.size hz2)))
  clear hs3 ht3 HS2 HW2 HA2 HB2'
  go_wp2_with fail
  refine (sysVal b 2 1 _ 2 kb 1 HS3.out (HT.out.mono HB3.out) (by decide)).mono ?_
  rintro e w4 ⟨hb4, ⟨hno, -⟩ | ⟨x, v', hx, rfl, ho⟩⟩
  · exact absurd ex_val.known hno
  · obtain rfl := hx.unique HS3.out.cons ex_val
    rw [ex_sym] at ho
    have hk := (ListAt.of_owns (f := byteV) ho).str
    rw [ex_str] at hk
    have HS4 := Lib.hid (HS3.out.mono hb4)
    have HB4 := Lib.hid (HB3.out.trans (hb4.mono HB3.out.size))
    obtain ⟨ao, co, rfl, -, -⟩ := own_open ho
    clear hx ho hb4 HS3
    obtain ⟨c0, -, -, c3, c4⟩ := HS4.out.cells
    have HC0 := Lib.hid c0
    have HC3 := Lib.hid c3
    have HC4 := Lib.hid c4
    clear c0 c3 c4
    go_wp2_with fail
    refine (elWhole_any b 2 2 false HC0.out HC3.out HC4.out).mono ?_
    rintro e w5 ⟨rfl, hb5⟩
    have HB5 := Lib.hid (HB4.out.trans (hb5.mono HB4.out.size))
    clear hb5
    go_wp2
    go_ret
    exact ⟨rfl, HB5.out⟩
end Go.Proofs.YtnkkaggepokjeaaDoor
end
