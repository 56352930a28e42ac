/- Lists of words as sets of columns, no program: which column is 1, all of them in order, their number, the least one; exclusive or, both; what is packed. -/
import Derived.Test.YtgbogglalnafeaaDoorBitsMath
namespace Go.Proofs.YtgbogglalnafeaaDoor

/-- Is a column 1? -/
def bitW (ws : List Nat) (c : Nat) : Bool := (ws.getD (c / 64) 0).testBit (c % 64)
/-- The columns below a bound that are 1, rising. -/
def colsTo (ws : List Nat) (n : Nat) : List Nat := (List.range n).filter (bitW ws)
def colsOf (ws : List Nat) : List Nat := colsTo ws (64 * ws.length)
def Word (ws : List Nat) : Prop := ∀ x ∈ ws, x < 18446744073709551616

theorem Word.getD {ws : List Nat} (h : Word ws) (i : Nat) : ws.getD i 0 < 18446744073709551616 := by
  by_cases hi : i < ws.length
  · rw [List.getD_eq_getElem?_getD, List.getElem?_eq_getElem hi]; exact h _ (List.getElem_mem hi)
  · rw [List.getD_eq_getElem?_getD, List.getElem?_eq_none (by omega)]; decide

theorem bitW_out (ws : List Nat) (c : Nat) (h : 64 * ws.length ≤ c) : bitW ws c = false := by
  unfold bitW
  rw [List.getD_eq_getElem?_getD, List.getElem?_eq_none (by omega)]
  simp

theorem bitW_at (ws : List Nat) (i b : Nat) (hb : b < 64) : bitW ws (i * 64 + b) = (ws.getD i 0).testBit b := by
  unfold bitW
  rw [show (i * 64 + b) / 64 = i by omega, show (i * 64 + b) % 64 = b by omega]

theorem colsTo_zero (ws : List Nat) : colsTo ws 0 = [] := rfl
theorem colsTo_succ (ws : List Nat) (n : Nat) : colsTo ws (n + 1) = colsTo ws n ++ (if bitW ws n then [n] else []) := by
  unfold colsTo
  rw [List.range_succ, List.filter_append]
  by_cases h : bitW ws n <;> simp [h]
theorem colsTo_one (ws : List Nat) (n : Nat) (h : bitW ws n = true) : colsTo ws (n + 1) = colsTo ws n ++ [n] := by rw [colsTo_succ, if_pos h]
theorem colsTo_none (ws : List Nat) (n : Nat) (h : bitW ws n = false) : colsTo ws (n + 1) = colsTo ws n := by rw [colsTo_succ, h]; simp
theorem colsTo_gap (ws : List Nat) (a : Nat) : ∀ k, (∀ c, a ≤ c → c < a + k → bitW ws c = false) → colsTo ws (a + k) = colsTo ws a
  | 0, _ => rfl
  | k + 1, h => by rw [← Nat.add_assoc, colsTo_none _ _ (h _ (by omega) (by omega))]; exact colsTo_gap ws a k fun c h1 h2 => h c h1 (by omega)

theorem mem_colsTo {ws : List Nat} {n c : Nat} : c ∈ colsTo ws n ↔ c < n ∧ bitW ws c = true := by
  unfold colsTo; rw [List.mem_filter, List.mem_range]
theorem mem_colsOf {ws : List Nat} {c : Nat} : c ∈ colsOf ws ↔ bitW ws c = true := by
  unfold colsOf; rw [mem_colsTo]
  refine ⟨fun h => h.2, fun h => ⟨?_, h⟩⟩
  apply Nat.lt_of_not_le
  intro hn
  rw [bitW_out _ _ hn] at h
  cases h

theorem colsTo_pairwise (ws : List Nat) (n : Nat) : (colsTo ws n).Pairwise (· < ·) := List.Pairwise.filter _ List.pairwise_lt_range
theorem colsTo_nodup (ws : List Nat) (n : Nat) : (colsTo ws n).Nodup := (colsTo_pairwise ws n).imp fun h => Nat.ne_of_lt h

/-! ### how many -/
theorem colsTo_word (ws : List Nat) (i : Nat) : (colsTo ws (64 * (i + 1))).length = (colsTo ws (64 * i)).length + pop (ws.getD i 0) := by
  unfold colsTo pop
  rw [show 64 * (i + 1) = 64 * i + 64 by omega, List.range_add, List.filter_append, List.length_append, List.filter_map, List.length_map, ← popN_filter]
  congr 2
  apply List.filter_congr
  intro b hb
  rw [List.mem_range] at hb
  have := bitW_at ws i b hb
  rw [Nat.mul_comm i 64] at this
  exact this

theorem colsTo_length_le (ws : List Nat) (n : Nat) : (colsTo ws n).length ≤ n := by
  unfold colsTo
  exact Nat.le_trans (List.length_filter_le _ _) (by simp)
theorem colsOf_length_le (ws : List Nat) : (colsOf ws).length ≤ 64 * ws.length := colsTo_length_le _ _

/-! ### the least one -/
def firstCol (ws : List Nat) : Int := ((colsOf ws).head?.map Int.ofNat).getD (-1)

theorem testBit_ctz (x : Nat) (h0 : x ≠ 0) (hx : x < 18446744073709551616) : Lib.ctz 64 x < 64 ∧ x.testBit (Lib.ctz 64 x) = true ∧ ∀ j, j < Lib.ctz 64 x → x.testBit j = false := by
  unfold Lib.ctz
  rw [if_neg h0]
  obtain ⟨m, hm, hk⟩ := Lib.ctzFrom_spec 64 x (by omega) hx
  generalize Lib.ctzFrom 64 x = k at *
  refine ⟨hk, ?_, fun j hj => ?_⟩
  · have e := Nat.testBit_two_pow_mul (a := 2 * m + 1) (i := k) (j := k)
    rw [← hm] at e
    rw [e]; simp
  · have e := Nat.testBit_two_pow_mul (a := 2 * m + 1) (i := k) (j := j)
    rw [← hm] at e
    rw [e]
    have : ¬ k ≤ j := by omega
    simp [this]

theorem firstCol_none (ws : List Nat) (h : ∀ i, i < ws.length → ws.getD i 0 = 0) : firstCol ws = -1 := by
  have e : colsOf ws = [] := by
    apply List.eq_nil_iff_forall_not_mem.2
    intro c hc
    rw [mem_colsOf] at hc
    unfold bitW at hc
    by_cases hi : c / 64 < ws.length
    · rw [h _ hi] at hc; simp at hc
    · rw [List.getD_eq_getElem?_getD, List.getElem?_eq_none (by omega)] at hc; simp at hc
  rw [firstCol, e]; rfl

theorem firstCol_some (ws : List Nat) (i : Nat) (hi : i < ws.length) (hw : Word ws) (h : ∀ j, j < i → ws.getD j 0 = 0) (h0 : ws.getD i 0 ≠ 0) : firstCol ws = ((i * 64 + Lib.ctz 64 (ws.getD i 0) : Nat) : Int) := by
  obtain ⟨hk, h1, h2⟩ := testBit_ctz _ h0 (hw.getD i)
  generalize Lib.ctz 64 (ws.getD i 0) = k at *
  have e : (colsOf ws).head? = some (i * 64 + k) := by
    unfold colsOf colsTo
    rw [List.head?_filter, List.find?_range_eq_some]
    refine ⟨by rw [bitW_at _ _ _ hk]; exact h1, by rw [List.mem_range]; omega, fun j hj => ?_⟩
    by_cases hji : j / 64 < i
    · have := h _ hji
      simp only [bitW, this]; simp
    · have ej : j = i * 64 + (j - i * 64) := by omega
      rw [ej, bitW_at _ _ _ (by omega), h2 _ (by omega)]; rfl
  rw [firstCol, e]; rfl

/-! ### the length of a word -/
theorem bitLenAux_lt : ∀ (f x : Nat), x < 2 ^ f → x < 2 ^ Lib.bitLenAux f x ∧ Lib.bitLenAux f x ≤ f
  | 0, x, h => by simpa [Lib.bitLenAux] using h
  | f + 1, x, h => by
    unfold Lib.bitLenAux
    by_cases h0 : x = 0
    · simp [h0]
    · obtain ⟨h1, h2⟩ := bitLenAux_lt f (x / 2) (by rw [Nat.pow_succ] at h; omega)
      rw [if_neg h0, Nat.add_comm 1, Nat.pow_succ]
      omega
theorem bitLen_lt (x : Nat) (hx : x < 18446744073709551616) : Lib.bitLen x ≤ 64 ∧ ∀ b, Lib.bitLen x ≤ b → x.testBit b = false := by
  obtain ⟨h1, h2⟩ := bitLenAux_lt 64 x hx
  refine ⟨h2, fun b hb => Nat.testBit_lt_two_pow (Nat.lt_of_lt_of_le h1 (Nat.pow_le_pow_right (by decide) hb))⟩

/-! ### exclusive or; both -/
def xorW (as bs : List Nat) : List Nat := List.zipWith (· ^^^ ·) as bs
def andW (as bs : List Nat) : List Nat := List.zipWith (· &&& ·) as bs
theorem xorW_length {as bs : List Nat} (h : as.length = bs.length) : (xorW as bs).length = as.length := by simp [xorW, h]
theorem andW_length {as bs : List Nat} (h : as.length = bs.length) : (andW as bs).length = as.length := by simp [andW, h]
theorem xorW_getD {as bs : List Nat} (h : as.length = bs.length) (i : Nat) : (xorW as bs).getD i 0 = as.getD i 0 ^^^ bs.getD i 0 := by
  simp only [xorW, List.getD_eq_getElem?_getD]
  by_cases hi : i < as.length
  · simp [List.getElem?_zipWith, hi, h ▸ hi]
  · simp [List.getElem?_zipWith, List.getElem?_eq_none (show as.length ≤ i by omega), List.getElem?_eq_none (show bs.length ≤ i by omega)]
theorem andW_getD {as bs : List Nat} (h : as.length = bs.length) (i : Nat) : (andW as bs).getD i 0 = as.getD i 0 &&& bs.getD i 0 := by
  simp only [andW, List.getD_eq_getElem?_getD]
  by_cases hi : i < as.length
  · simp [List.getElem?_zipWith, hi, h ▸ hi]
  · simp [List.getElem?_zipWith, List.getElem?_eq_none (show as.length ≤ i by omega), List.getElem?_eq_none (show bs.length ≤ i by omega)]
theorem bitW_xor {as bs : List Nat} (h : as.length = bs.length) (c : Nat) : bitW (xorW as bs) c = (bitW as c ^^ bitW bs c) := by
  unfold bitW; rw [xorW_getD h, Nat.testBit_xor]
theorem bitW_and {as bs : List Nat} (h : as.length = bs.length) (c : Nat) : bitW (andW as bs) c = (bitW as c && bitW bs c) := by
  unfold bitW; rw [andW_getD h, Nat.testBit_and]
theorem Word.xor {as bs : List Nat} (ha : Word as) (hb : Word bs) : Word (xorW as bs) := by
  intro x hx
  obtain ⟨i, hi, rfl⟩ := List.getElem_of_mem hx
  simp only [xorW, List.getElem_zipWith]
  exact Nat.xor_lt_two_pow (n := 64) (ha _ (List.getElem_mem _)) (hb _ (List.getElem_mem _))
theorem xorW_comm (as bs : List Nat) : xorW as bs = xorW bs as := by
  unfold xorW; rw [List.zipWith_comm]; simp [Nat.xor_comm]
theorem xorW_assoc : ∀ (as bs cs : List Nat), xorW (xorW as bs) cs = xorW as (xorW bs cs)
  | [], _, _ => by simp [xorW]
  | _ :: _, [], _ => by simp [xorW]
  | _ :: _, _ :: _, [] => by simp [xorW]
  | a :: as, b :: bs, c :: cs => by
    have := xorW_assoc as bs cs
    simp only [xorW, List.zipWith_cons_cons, Nat.xor_assoc, List.cons.injEq, true_and] at *
    exact this
theorem colsOf_self (as : List Nat) : colsOf (xorW as as) = [] := by
  apply List.eq_nil_iff_forall_not_mem.2
  intro c hc
  rw [mem_colsOf, bitW_xor rfl] at hc
  simp at hc

/-- Is the number of columns that are 1 in both odd? -/
def oddW (as bs : List Nat) : Bool := (colsOf (andW as bs)).length % 2 == 1

theorem filter_xor_parity {α : Type} (p q : α → Bool) : ∀ l : List α, (l.filter (fun x => p x ^^ q x)).length % 2 = ((l.filter p).length + (l.filter q).length) % 2
  | [] => rfl
  | x :: l => by
    have ih := filter_xor_parity p q l
    simp only [List.filter_cons]
    cases p x <;> cases q x <;> simp <;> omega

theorem oddW_xor {as bs cs : List Nat} (h1 : as.length = bs.length) (h2 : bs.length = cs.length) : oddW (xorW as bs) cs = (oddW as cs != oddW bs cs) := by
  have hx : (xorW as bs).length = cs.length := by rw [xorW_length h1]; omega
  have e : (colsOf (andW (xorW as bs) cs)).length % 2 = ((colsOf (andW as cs)).length + (colsOf (andW bs cs)).length) % 2 := by
    unfold colsOf colsTo
    rw [andW_length hx, andW_length (h1.trans h2), andW_length h2, xorW_length h1, ← h1, ← filter_xor_parity]
    congr 2
    apply List.filter_congr
    intro c _
    rw [bitW_and hx, bitW_xor h1, bitW_and (h1.trans h2), bitW_and h2]
    cases bitW as c <;> cases bitW bs c <;> cases bitW cs c <;> rfl
  unfold oddW
  rw [e]
  generalize (colsOf (andW as cs)).length = m
  generalize (colsOf (andW bs cs)).length = n
  have h1 := Nat.mod_two_eq_zero_or_one m
  have h2 := Nat.mod_two_eq_zero_or_one n
  rw [Nat.add_mod]
  rcases h1 with h1 | h1 <;> rcases h2 with h2 | h2 <;> rw [h1, h2] <;> rfl

theorem pop_xor (x y : Nat) : pop (x ^^^ y) % 2 = (pop x + pop y) % 2 := by
  unfold pop
  rw [← popN_filter, ← popN_filter, ← popN_filter, ← filter_xor_parity]
  congr 2
  apply List.filter_congr
  intro i _
  rw [Nat.testBit_xor]

/-- The columns of the exclusive or, as the document's own function tells them. -/
theorem colsOf_xor {as bs : List Nat} (h : as.length = bs.length) : colsOf (xorW as bs) = (List.range (64 * as.length)).filter (fun c => decide (c ∈ colsOf as) != decide (c ∈ colsOf bs)) := by
  unfold colsOf
  rw [xorW_length h]
  unfold colsTo
  apply List.filter_congr
  intro c _
  rw [bitW_xor h]
  have e1 : decide (c ∈ colsOf as) = bitW as c := by simp [mem_colsOf]
  have e2 : decide (c ∈ colsOf bs) = bitW bs c := by simp [mem_colsOf]
  unfold colsOf colsTo at e1 e2
  rw [e1, e2]

theorem both_length {as bs : List Nat} (h : as.length = bs.length) : ((colsOf as).filter (fun c => decide (c ∈ colsOf bs))).length = (colsOf (andW as bs)).length := by
  have e1 : (fun c => decide (c ∈ colsOf bs)) = bitW bs := by funext c; simp [mem_colsOf]
  rw [e1]
  unfold colsOf
  rw [andW_length h]
  unfold colsTo
  rw [List.filter_filter]
  congr 1
  apply List.filter_congr
  intro c _
  rw [bitW_and h, Bool.and_comm]

/-! ### what is packed -/
/-- Words that hold just the columns of a set below 64 k. -/
def Packs (ws : List Nat) (k : Nat) (p : Nat → Bool) : Prop := ws.length = k ∧ Word ws ∧ ∀ c, c < 64 * k → bitW ws c = p c

theorem Packs.unique {ws vs : List Nat} {k : Nat} {p : Nat → Bool} (h1 : Packs ws k p) (h2 : Packs vs k p) : ws = vs := by
  obtain ⟨l1, w1, b1⟩ := h1
  obtain ⟨l2, w2, b2⟩ := h2
  apply List.ext_getElem (by omega)
  intro i hi1 hi2
  have g1 : ws.getD i 0 = ws[i] := by simp [List.getD_eq_getElem?_getD, hi1]
  have g2 : vs.getD i 0 = vs[i] := by simp [List.getD_eq_getElem?_getD, hi2]
  apply Nat.eq_of_testBit_eq
  intro b
  by_cases hb : b < 64
  · have a1 := bitW_at ws i b hb
    have a2 := bitW_at vs i b hb
    rw [g1] at a1
    rw [g2] at a2
    rw [← a1, ← a2, b1 _ (by omega), b2 _ (by omega)]
  · rw [Nat.testBit_lt_two_pow (Nat.lt_of_lt_of_le (w1 _ (List.getElem_mem hi1)) (Nat.pow_le_pow_right (n := 2) (by decide) (show 64 ≤ b by omega))),
      Nat.testBit_lt_two_pow (Nat.lt_of_lt_of_le (w2 _ (List.getElem_mem hi2)) (Nat.pow_le_pow_right (n := 2) (by decide) (show 64 ≤ b by omega)))]

theorem Packs.zero (k : Nat) : Packs (List.replicate k 0) k (fun _ => false) := by
  refine ⟨by simp, fun x hx => by rw [List.mem_replicate] at hx; omega, fun c _ => ?_⟩
  unfold bitW
  have : (List.replicate k 0).getD (c / 64) 0 = 0 := by
    rw [List.getD_eq_getElem?_getD, List.getElem?_replicate]
    split <;> rfl
  rw [this]; simp

theorem Packs.set {ws : List Nat} {k : Nat} {p : Nat → Bool} (h : Packs ws k p) (c : Nat) (hc : c < 64 * k) :
    Packs (ws.set (c / 64) (ws.getD (c / 64) 0 ||| 2 ^ (c % 64))) k (fun d => p d || d == c) := by
  obtain ⟨l, w, b⟩ := h
  have hp : 2 ^ (c % 64) < 18446744073709551616 := by
    have : 2 ^ (c % 64) ≤ 2 ^ 63 := Nat.pow_le_pow_right (by decide) (by omega)
    omega
  refine ⟨by simpa using l, fun x hx => ?_, fun d hd => ?_⟩
  · rcases List.mem_or_eq_of_mem_set hx with hx | rfl
    · exact w x hx
    · exact Nat.or_lt_two_pow (n := 64) (w.getD _) hp
  · have hbd := b d hd
    unfold bitW at hbd ⊢
    simp only [List.getD_eq_getElem?_getD, List.getElem?_set] at hbd ⊢
    by_cases hq : c / 64 = d / 64
    · rw [if_pos hq, if_pos (by omega)]
      simp only [Option.getD_some, Nat.testBit_or, Nat.testBit_two_pow]
      rw [hq, hbd]
      by_cases he : d = c
      · subst he; simp
      · have : ¬ c % 64 = d % 64 := by omega
        simp [this, he]
    · rw [if_neg hq, hbd]
      have : ¬ d = c := by intro e; subst e; exact hq rfl
      simp [this]

theorem Packs.congr {ws : List Nat} {k : Nat} {p q : Nat → Bool} (h : Packs ws k p) (e : ∀ c, c < 64 * k → p c = q c) : Packs ws k q :=
  ⟨h.1, h.2.1, fun c hc => (h.2.2 c hc).trans (e c hc)⟩

/-- A word that is built bit by bit from the highest one on. -/
def bitsDown (p : Nat → Bool) (i : Nat) : Nat → Nat
  | 0 => 0
  | n + 1 => 2 * bitsDown p i n + (p (64 * i + (63 - n))).toNat

theorem bitsDown_spec (p : Nat → Bool) (i : Nat) : ∀ n, n ≤ 64 → bitsDown p i n < 2 ^ n ∧ ∀ b, b < n → (bitsDown p i n).testBit b = p (64 * i + (64 - n + b))
  | 0, _ => ⟨by simp [bitsDown], fun b hb => by omega⟩
  | n + 1, hn => by
    obtain ⟨h1, h2⟩ := bitsDown_spec p i n (by omega)
    have ht : (p (64 * i + (63 - n))).toNat ≤ 1 := Bool.toNat_le _
    refine ⟨by rw [Nat.pow_succ, bitsDown]; omega, fun b hb => ?_⟩
    rw [bitsDown]
    cases b with
    | zero =>
      rw [Nat.testBit_zero, show 64 - (n + 1) + 0 = 63 - n by omega]
      cases p (64 * i + (63 - n)) <;> simp <;> omega
    | succ b =>
      rw [Nat.testBit_succ, show (2 * bitsDown p i n + (p (64 * i + (63 - n))).toNat) / 2 = bitsDown p i n by omega, h2 b (by omega)]
      congr 1
      omega

theorem Packs.map (p : Nat → Bool) (k : Nat) : Packs ((List.range k).map fun i => bitsDown p i 64) k p := by
  refine ⟨by simp, fun x hx => ?_, fun c hc => ?_⟩
  · obtain ⟨i, _, rfl⟩ := List.mem_map.1 hx
    exact (bitsDown_spec p i 64 (Nat.le_refl _)).1
  · unfold bitW
    have : ((List.range k).map fun i => bitsDown p i 64).getD (c / 64) 0 = bitsDown p (c / 64) 64 := by
      rw [List.getD_eq_getElem?_getD, List.getElem?_map, List.getElem?_range (by omega)]; rfl
    rw [this, (bitsDown_spec p (c / 64) 64 (Nat.le_refl _)).2 _ (by omega)]
    congr 1
    omega

end Go.Proofs.YtgbogglalnafeaaDoor
