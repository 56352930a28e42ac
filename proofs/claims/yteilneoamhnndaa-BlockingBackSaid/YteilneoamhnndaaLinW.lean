/- Rows of words and rows of truths as sets of columns, no program: what is whole, what is packed of truths; matrices. -/
import Derived.Test.YteilneoamhnndaaLinG
import Derived.Test.YteilneoamhnndaaPkPack
namespace Go.Proofs.Yteilneoamhnndaa

theorem bitW_nil : bitW [] = vzero := funext fun c => by unfold bitW vzero; simp
theorem bitW_vadd {a b : List Nat} (h : a.length = b.length) : bitW (xorW a b) = vadd (bitW a) (bitW b) := funext fun c => bitW_xor h c
theorem firstCol_cases (ws : List Nat) : (firstCol ws = -1 ∧ bitW ws = vzero) ∨ ∃ c : Nat, firstCol ws = (c : Int) ∧ Lead (bitW ws) c ∧ c < 64 * ws.length := by
  cases h : (colsOf ws).head? with
  | none =>
    left
    refine ⟨by rw [firstCol, h]; rfl, ?_⟩
    rw [List.head?_eq_none_iff] at h
    funext c
    cases hb : bitW ws c with
    | false => rfl
    | true =>
      have := mem_colsOf.2 hb
      rw [h] at this
      simp at this
  | some c =>
    right
    refine ⟨c, by rw [firstCol, h]; rfl, ?_⟩
    unfold colsOf colsTo at h
    rw [List.head?_filter, List.find?_range_eq_some] at h
    obtain ⟨h1, h2, h3⟩ := h
    exact ⟨⟨h1, fun d hd => by simpa using h3 d hd⟩, List.mem_range.1 h2⟩

theorem words_of_bits {a b : List Nat} {k : Nat} (ha : Word a) (hb : Word b) (la : a.length = k) (lb : b.length = k) (h : bitW a = bitW b) : a = b :=
  Packs.unique (k := k) (p := bitW b) ⟨la, ha, fun c _ => by rw [h]⟩ ⟨lb, hb, fun _ _ => rfl⟩

theorem words_of_vecs {k : Nat} : ∀ {L M : List (List Nat)}, (∀ r ∈ L, Word r ∧ r.length = k) → (∀ r ∈ M, Word r ∧ r.length = k) → L.map bitW = M.map bitW → L = M
  | [], [], _, _, _ => rfl
  | [], _ :: _, _, _, h => by simp at h
  | _ :: _, [], _, _, h => by simp at h
  | a :: L, b :: M, h1, h2, h => by
    simp only [List.map_cons, List.cons.injEq] at h
    rw [words_of_bits (h1 a (by simp)).1 (h2 b (by simp)).1 (h1 a (by simp)).2 (h2 b (by simp)).2 h.1,
      words_of_vecs (fun r hr => h1 r (List.mem_cons_of_mem _ hr)) (fun r hr => h2 r (List.mem_cons_of_mem _ hr)) h.2]

/-! ### whole rows -/
def kOf (n : Nat) : Nat := (n + 63) / 64
theorem sizeI_of {n : Nat} (h : n ≤ 4096) : sizeI (n : Int) = (kOf n : Int) := by
  unfold sizeI kOf; rw [if_neg (by omega)]; omega
theorem kOf_le {n : Nat} (h : n ≤ 4096) : kOf n ≤ 64 := by unfold kOf; omega
def wholeB (n : Nat) (r : List Nat) : Bool := decide (r.length = kOf n) && (List.range (64 * r.length)).all fun c => decide (c < n) || !bitW r c
theorem wholeB_iff {n : Nat} {r : List Nat} : wholeB n r = true ↔ r.length = kOf n ∧ ∀ c, n ≤ c → bitW r c = false := by
  unfold wholeB
  rw [Bool.and_eq_true, decide_eq_true_eq, List.all_eq_true]
  constructor
  · rintro ⟨h1, h2⟩
    refine ⟨h1, fun c hc => ?_⟩
    by_cases hl : c < 64 * r.length
    · have := h2 c (List.mem_range.2 hl)
      simp only [Bool.or_eq_true, decide_eq_true_eq, Bool.not_eq_true'] at this
      exact this.resolve_left (by omega)
    · exact bitW_out _ _ (by omega)
  · rintro ⟨h1, h2⟩
    refine ⟨h1, fun c _ => ?_⟩
    by_cases hc : c < n
    · simp [hc]
    · simp [h2 c (by omega)]
theorem wholeB_len {n : Nat} {r : List Nat} (h : r.length ≠ kOf n) : wholeB n r = false := by
  cases hb : wholeB n r with
  | false => rfl
  | true => exact absurd (wholeB_iff.1 hb).1 h
theorem wholeB_bit {n c : Nat} {r : List Nat} (h : n ≤ c) (hb : bitW r c = true) : wholeB n r = false := by
  cases hw : wholeB n r with
  | false => rfl
  | true => rw [(wholeB_iff.1 hw).2 c h] at hb; cases hb

/-- The last word holds the columns that are too many. -/
theorem whole_last {n : Nat} {r : List Nat} (hw : Word r) (hl : r.length = kOf n) : wholeB n r = (decide (n % 64 = 0) || decide (r.getD (n / 64) 0 / 2 ^ (n % 64) = 0)) := by
  have hx : r.getD (n / 64) 0 < 2 ^ 64 := hw.getD _
  by_cases h0 : n % 64 = 0
  · have : wholeB n r = true := wholeB_iff.2 ⟨hl, fun c hc => bitW_out _ _ (by unfold kOf at hl; omega)⟩
    simp [this, h0]
  · by_cases h1 : r.getD (n / 64) 0 / 2 ^ (n % 64) = 0
    · have : wholeB n r = true := wholeB_iff.2 ⟨hl, fun c hc => by
        by_cases he : c / 64 = n / 64
        · unfold bitW
          rw [he]
          have hlt : r.getD (n / 64) 0 < 2 ^ (n % 64) := by
            apply Nat.lt_of_not_le
            intro hle
            have := Nat.div_pos hle (Nat.two_pow_pos _)
            omega
          exact Nat.testBit_lt_two_pow (Nat.lt_of_lt_of_le hlt (Nat.pow_le_pow_right (by decide) (by omega)))
        · exact bitW_out _ _ (by unfold kOf at hl; omega)⟩
      rw [this, decide_eq_true h1, Bool.or_true]
    · have : wholeB n r = false := by
        cases hb : wholeB n r with
        | false => rfl
        | true =>
          exfalso
          apply h1
          apply Nat.eq_of_testBit_eq
          intro j
          rw [Nat.testBit_div_two_pow, Nat.zero_testBit]
          by_cases hj : n % 64 + j < 64
          · have := (wholeB_iff.1 hb).2 (n + j) (by omega)
            unfold bitW at this
            rw [show (n + j) / 64 = n / 64 by omega, show (n + j) % 64 = n % 64 + j by omega] at this
            rw [Nat.add_comm]
            exact this
          · exact Nat.testBit_lt_two_pow (Nat.lt_of_lt_of_le hx (Nat.pow_le_pow_right (by decide) (by omega)))
      rw [this, decide_eq_false h0, decide_eq_false h1]; rfl

/-- The document's check of a matrix. -/
def checkM (L : List (List Nat)) (n : Int) : Int := if n < 0 ∨ 4096 < n then 1 else if 4096 < L.length then 3 else if L.all (wholeB n.toNat) then 0 else 2
structure MatOk (L : List (List Nat)) (n : Nat) : Prop where
  cols : n ≤ 4096
  rows : L.length ≤ 4096
  words : ∀ r ∈ L, Word r
  whole : ∀ r ∈ L, r.length = kOf n ∧ ∀ c, n ≤ c → bitW r c = false
theorem checkM_zero {L : List (List Nat)} {n : Int} (hw : ∀ r ∈ L, Word r) (h : checkM L n = 0) : ∃ m : Nat, n = (m : Int) ∧ MatOk L m := by
  unfold checkM at h
  split at h
  · cases h
  · split at h
    · cases h
    · split at h
      · rename_i h1 h2 h3
        refine ⟨n.toNat, by omega, ⟨by omega, by omega, hw, fun r hr => ?_⟩⟩
        rw [List.all_eq_true] at h3
        exact wholeB_iff.1 (h3 r hr)
      · cases h
theorem MatOk.check {L : List (List Nat)} {n : Nat} (h : MatOk L n) : checkM L (n : Int) = 0 := by
  unfold checkM
  have h1 := h.cols
  have h2 := h.rows
  rw [if_neg (by omega), if_neg (by omega), if_pos]
  rw [List.all_eq_true]
  intro r hr
  exact wholeB_iff.2 (h.whole r hr)
def vecs (L : List (List Nat)) : List Vec := L.map bitW
theorem vecs_length (L : List (List Nat)) : (vecs L).length = L.length := by simp [vecs]
theorem vecs_getD (L : List (List Nat)) (k : Nat) : (vecs L).getD k vzero = bitW (L.getD k []) := by
  unfold vecs
  simp only [List.getD_eq_getElem?_getD, List.getElem?_map]
  cases L[k]? with
  | none => exact bitW_nil.symm
  | some r => rfl
theorem vecs_take (L : List (List Nat)) (k : Nat) : vecs (L.take k) = (vecs L).take k := by unfold vecs; rw [List.map_take]
theorem vecs_append (L M : List (List Nat)) : vecs (L ++ M) = vecs L ++ vecs M := by unfold vecs; rw [List.map_append]
theorem getD_mem' {L : List (List Nat)} {k : Nat} (h : k < L.length) : L.getD k [] ∈ L := by
  rw [List.getD_eq_getElem?_getD, List.getElem?_eq_getElem h]; exact List.getElem_mem h
theorem MatOk.low {L : List (List Nat)} {n : Nat} (h : MatOk L n) : ∀ r ∈ vecs L, ∀ c, n ≤ c → r c = false := fun r hr c hc => by
  obtain ⟨s, hs, rfl⟩ := List.mem_map.1 hr
  exact (h.whole s hs).2 c hc
theorem MatOk.sub {L M : List (List Nat)} {n : Nat} (h : MatOk L n) (hm : ∀ r ∈ M, r ∈ L) (hl : M.length ≤ 4096) : MatOk M n :=
  ⟨h.cols, hl, fun r hr => h.words r (hm r hr), fun r hr => h.whole r (hm r hr)⟩

/-! ### truths -/
def bitB (b : List Bool) : Vec := fun c => b.getD c false
theorem bitB_nil : bitB [] = vzero := funext fun c => by simp [bitB, vzero]
def truthsB (ws : List Nat) (n : Nat) : List Bool := (List.range n).map (bitW ws)
theorem truthsB_length (ws : List Nat) (n : Nat) : (truthsB ws n).length = n := by simp [truthsB]
theorem range_getD {α : Type} (f : Nat → α) (n k : Nat) (d : α) : ((List.range n).map f).getD k d = if k < n then f k else d := by
  simp only [List.getD_eq_getElem?_getD, List.getElem?_map]
  by_cases h : k < n
  · simp [h]
  · simp [h]
theorem bitB_truths {ws : List Nat} {n : Nat} (h : ∀ c, n ≤ c → bitW ws c = false) : bitB (truthsB ws n) = bitW ws := by
  funext c
  unfold bitB truthsB
  rw [range_getD]
  by_cases hc : c < n
  · rw [if_pos hc]
  · rw [if_neg hc, h c (by omega)]
def sumB (a b : List Bool) : List Bool := (List.range a.length).map fun c => (bitB a c != bitB b c)
theorem sumB_length (a b : List Bool) : (sumB a b).length = a.length := by simp [sumB]
theorem bitB_out {b : List Bool} {c : Nat} (h : b.length ≤ c) : bitB b c = false := by
  unfold bitB; rw [List.getD_eq_getElem?_getD, List.getElem?_eq_none h]; rfl
theorem bitB_sum {a b : List Bool} (h : a.length = b.length) : bitB (sumB a b) = vadd (bitB a) (bitB b) := by
  funext c
  by_cases hc : c < a.length
  · show (sumB a b).getD c false = _
    unfold sumB vadd
    rw [range_getD, if_pos hc]
  · rw [bitB_out (by rw [sumB_length]; omega)]
    unfold vadd
    rw [bitB_out (by omega), bitB_out (by omega)]; rfl

/-- The columns of truths, and what is packed of them. -/
def colsB (b : List Bool) : List Nat := (List.range b.length).filter fun c => bitB b c
def colsBTo (b : List Bool) (k : Nat) : List Nat := (List.range k).filter fun c => bitB b c
theorem colsBTo_one {b : List Bool} {k : Nat} (h : bitB b k = true) : colsBTo b (k + 1) = colsBTo b k ++ [k] := by
  unfold colsBTo; rw [List.range_succ, List.filter_append]; simp [h]
theorem colsBTo_none {b : List Bool} {k : Nat} (h : bitB b k = false) : colsBTo b (k + 1) = colsBTo b k := by
  unfold colsBTo; rw [List.range_succ, List.filter_append]; simp [h]
theorem colsBTo_le (b : List Bool) (k : Nat) : (colsBTo b k).length ≤ k := by
  unfold colsBTo; exact Nat.le_trans (List.length_filter_le _ _) (by simp)
theorem packW_packs (l : List Int) (k : Nat) : Packs (packW l k) k (inP l) := by
  refine ⟨packW_length l k, fun x hx => ?_, fun c hc => ?_⟩
  · unfold packW at hx
    obtain ⟨i, _, rfl⟩ := List.mem_map.1 hx
    exact (bitsDown_spec (inP l) i 64 (Nat.le_refl _)).1
  · unfold bitW packW
    rw [range_getD, if_pos (by omega), (bitsDown_spec (inP l) (c / 64) 64 (Nat.le_refl _)).2 (c % 64) (by omega)]
    congr 1
    omega
def wordsB (b : List Bool) : List Nat := packW ((colsB b).map Int.ofNat) (kOf b.length)
theorem wordsB_spec (b : List Bool) : Word (wordsB b) ∧ (wordsB b).length = kOf b.length ∧ bitW (wordsB b) = bitB b := by
  obtain ⟨h1, h2, h3⟩ := packW_packs ((colsB b).map Int.ofNat) (kOf b.length)
  refine ⟨h2, h1, funext fun c => ?_⟩
  by_cases hc : c < 64 * kOf b.length
  · have := h3 c hc
    unfold wordsB
    rw [this]
    unfold inP
    cases hb : bitB b c with
    | true =>
      have hl : c < b.length := by
        apply Nat.lt_of_not_le
        intro hle
        rw [bitB_out hle] at hb
        cases hb
      apply decide_eq_true
      exact List.mem_map.2 ⟨c, by unfold colsB; simp [hl, hb], rfl⟩
    | false =>
      apply decide_eq_false
      intro hm
      obtain ⟨d, hd, e⟩ := List.mem_map.1 hm
      have : d = c := Int.ofNat.inj e
      subst this
      unfold colsB at hd
      simp [hb] at hd
  · rw [bitW_out _ _ (by unfold wordsB; rw [h1]; omega), bitB_out (by unfold kOf at hc; omega)]

def vecsB (R : List (List Bool)) : List Vec := R.map bitB
theorem vecsB_getD (R : List (List Bool)) (k : Nat) : (vecsB R).getD k vzero = bitB (R.getD k []) := by
  unfold vecsB
  simp only [List.getD_eq_getElem?_getD, List.getElem?_map]
  cases R[k]? with
  | none => exact bitB_nil.symm
  | some r => rfl
theorem vecsB_length (R : List (List Bool)) : (vecsB R).length = R.length := by simp [vecsB]
def allB (L : List (List Nat)) (n : Nat) : List (List Bool) := L.map fun r => truthsB r n
theorem vecsB_all {L : List (List Nat)} {n : Nat} (h : MatOk L n) : vecsB (allB L n) = vecs L := by
  unfold vecsB allB vecs
  rw [List.map_map]
  apply List.map_congr_left
  intro r hr
  exact bitB_truths (h.whole r hr).2
theorem vecs_words (R : List (List Bool)) : vecs (R.map wordsB) = vecsB R := by
  unfold vecs vecsB
  rw [List.map_map]
  apply List.map_congr_left
  intro r _
  exact (wordsB_spec r).2.2
end Go.Proofs.Yteilneoamhnndaa
