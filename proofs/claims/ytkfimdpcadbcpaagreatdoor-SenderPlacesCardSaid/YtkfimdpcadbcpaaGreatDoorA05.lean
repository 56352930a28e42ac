import Derived.Test.YtkfimdpcadbcpaaGreatDoorA01
import Derived.Test.YtkfimdpcadbcpaaGreatDoorA04
import Derived.Test.YtkfimdpcadbcpaaGreatDoorChecked
set_option linter.unusedSimpArgs false
set_option linter.unusedVariables false
set_option maxRecDepth 1000000
set_option maxHeartbeats 8000000
namespace Go.Proofs.YtkfimdpcadbcpaaGreatDoor
section
def gry (i : Nat) : Nat := i ^^^ (i / 2)
def graysTo (w k : Nat) : List Nat := ((List.range k).map gry).filter fun g => pop g == w
theorem zA3 (w k : Nat) : graysTo w (k + 1) = graysTo w k ++ if pop (gry k) = w then [gry k] else [] := by
  unfold graysTo
  rw [List.range_succ, List.map_append, List.filter_append, List.map_cons, List.map_nil, List.filter_cons, List.filter_nil]
  generalize pop (gry k) = x
  simp only [beq_iff_eq]
theorem zFV {w k : Nat} (h : pop (gry k) = w) : graysTo w (k + 1) = graysTo w k ++ [gry k] := by rw [zA3, if_pos h]
theorem zEL {w k : Nat} (h : pop (gry k) ≠ w) : graysTo w (k + 1) = graysTo w k := by rw [zA3, if_neg h, List.append_nil]
theorem zDa (w k : Nat) : ∀ d, graysTo w k <+: graysTo w (k + d)
  | 0 => List.prefix_refl _
  | d + 1 => (zDa w k d).trans (by rw [← Nat.add_assoc, zA3]; exact List.prefix_append _ _)
theorem zA8 (w : Nat) {k m : Nat} (h : k ≤ m) : graysTo w k <+: graysTo w m := by
  obtain ⟨d, rfl⟩ : ∃ d, m = k + d := ⟨m - k, by omega⟩
  exact zDa w k d
theorem zDw (w k : Nat) : (graysTo w k).length ≤ k := by
  unfold graysTo
  exact Nat.le_trans (List.length_filter_le _ _) (by simp)
theorem zDg {α : Type} {l m : List α} (h : l <+: m) (hl : m.length ≤ l.length) : l = m := h.eq_of_length_le hl
theorem zMb {i n : Nat} (h : i < 2 ^ n) : gry i < 2 ^ n := Nat.xor_lt_two_pow h (Nat.lt_of_le_of_lt (Nat.div_le_self _ _) h)
theorem zF2 {w k x : Nat} (h : x ∈ graysTo w k) : pop x = w ∧ ∃ i, i < k ∧ gry i = x := by
  unfold graysTo at h
  rw [List.mem_filter, List.mem_map] at h
  obtain ⟨⟨i, hi, rfl⟩, h2⟩ := h
  exact ⟨by simpa using h2, i, List.mem_range.1 hi, rfl⟩
def IsGr (w n : Nat) (l : List Nat) : Prop := ∃ k, k ≤ 1048576 ∧ l = graysTo w k ∧ l.length ≤ n ∧ (l.length = n ∨ k = 1048576)
theorem IsGr.unique {w n : Nat} {l m : List Nat} (h : IsGr w n l) (h' : IsGr w n m) : l = m := by
  have key : ∀ {l m : List Nat} {k q : Nat}, k ≤ q → q ≤ 1048576 → l = graysTo w k → m = graysTo w q → m.length ≤ n → (l.length = n ∨ k = 1048576) → l = m := by
    intro l m k q hkq hq hl hm hn ho
    rcases ho with ho | ho
    · exact zDg (by rw [hl, hm]; exact zA8 w hkq) (by omega)
    · rw [hl, hm, show k = q by omega]
  obtain ⟨k, k1, k2, k3, k4⟩ := h
  obtain ⟨q, q1, q2, q3, q4⟩ := h'
  rcases Nat.le_total k q with hh | hh
  · exact key hh q1 k2 q2 q3 k4
  · exact (key hh k1 q2 k2 k3 q4).symm
theorem IsGr.take {w n m : Nat} {l : List Nat} (h : IsGr w n l) (hm : m ≤ 1048576) (hn : n ≤ (graysTo w m).length) : l.length = n ∧ ∀ x ∈ l, x ∈ graysTo w m := by
  obtain ⟨k, k1, rfl, k3, k4⟩ := h
  rcases Nat.le_total k m with hh | hh
  · have hp := zA8 w hh
    refine ⟨?_, fun x hx => hp.subset hx⟩
    rcases k4 with k4 | k4
    · exact k4
    · have : k = m := by omega
      subst this
      omega
  · have hp := zA8 w hh
    have e := zDg hp (by omega)
    rw [← e]
    exact ⟨by have := hp.length_le; omega, fun x hx => hx⟩
theorem zMJ : ∀ h, h ≤ 10 → ch h ((h + 1) / 2) ≤ (graysTo ((h + 1) / 2) (2 ^ h)).length := by decide +kernel
theorem gr_of {k s h l p : Nat} (H : OfP k s h l p) (h1 : 1 ≤ k) (h2 : k ≤ 128) {g : List Nat} (hg : IsGr ((h + 1) / 2) (k + s) g) : g.length = k + s ∧ ∀ x ∈ g, x < 2 ^ h ∧ pop x = (h + 1) / 2 := by
  obtain ⟨b1, b2, b3, b4, -⟩ := H.bounds h1 h2
  have hc := H.2.1.1
  have hm := zMJ h b3
  have hp : 2 ^ h ≤ 2 ^ 10 := Nat.pow_le_pow_right (by decide) b3
  obtain ⟨e1, e2⟩ := hg.take (m := 2 ^ h) (by omega) (by omega)
  refine ⟨e1, fun x hx => ?_⟩
  obtain ⟨f1, i, hi, rfl⟩ := zF2 (e2 x hx)
  exact ⟨zMb hi, f1⟩
theorem zGe (p : Nat → Bool) (n : Nat) : (List.range (n + 1)).filter p = (List.range n).filter p ++ if p n then [n] else [] := by
  rw [List.range_succ, List.filter_append]
  congr 1
  by_cases h : p n <;> simp [h]
theorem zEO {p : Nat → Bool} {n : Nat} (h : p n = true) : (List.range (n + 1)).filter p = (List.range n).filter p ++ [n] := by rw [zGe, if_pos h]
theorem zGo {p : Nat → Bool} {n : Nat} (h : p n = false) : (List.range (n + 1)).filter p = (List.range n).filter p := by rw [zGe, if_neg (by rw [h]; decide), List.append_nil]
theorem zDO (p : Nat → Bool) (n : Nat) : ((List.range n).filter p).length ≤ n := Nat.le_trans (List.length_filter_le _ _) (by simp)
def ldA (s i : Nat) : Nat := 1 + i / s % (s - 1)
def ldB (k s row place : Nat) : Bool :=
  if k ≤ place then decide (place = k + row) else decide (row = place % s) || decide (row = (place % s + ldA s place) % s) || decide (row = (place % s + 2 * ldA s place) % s)
theorem zJH {k s row place : Nat} (h : k ≤ place) : ldB k s row place = decide (place = k + row) := if_pos h
theorem zG3 {k s row place : Nat} (h : place < k) : ldB k s row place = (decide (row = place % s) || decide (row = (place % s + ldA s place) % s) || decide (row = (place % s + 2 * ldA s place) % s)) := if_neg (by omega)
def rowL (k s row : Nat) : List Nat := (List.range (k + s)).filter (ldB k s row)
def rowK (k s row : Nat) : List Nat := (List.range k).filter (ldB k s row)
theorem zI5 {k s row : Nat} : ∀ t, (List.range (k + t)).filter (ldB k s row) = rowK k s row ++ if row < t then [k + row] else []
  | 0 => by rw [if_neg (by omega)]; simp [rowK]
  | t + 1 => by
    rw [← Nat.add_assoc, zGe, zI5 t, zJH (Nat.le_add_right k t), List.append_assoc]
    congr 1
    by_cases h : row = t
    · subst h
      rw [if_neg (Nat.lt_irrefl row), if_pos (Nat.lt_succ_self row), if_pos (decide_eq_true (rfl : k + row = k + row))]; rfl
    · rw [if_neg (c := decide (k + t = k + row) = true) (by simpa using fun e => h e.symm)]
      by_cases h2 : row < t
      · rw [if_pos h2, if_pos (by omega)]; simp
      · rw [if_neg h2, if_neg (by omega)]; simp
theorem zGa {k s row : Nat} (h : row < s) : rowL k s row = rowK k s row ++ [k + row] := by
  unfold rowL
  rw [zI5 s, if_pos h]
def colB (g : List Nat) (j x : Nat) : List Nat := (List.range j).filter fun p => (g.getD p 0).testBit x
def rowH (k s : Nat) (g : List Nat) (x : Nat) : List Nat := colB g (k + s) x ++ [k + s + x]
def rowsP (k s h : Nat) (g : List Nat) : List (List Nat) := (List.range s).map (rowL k s) ++ (List.range h).map (rowH k s g)
theorem zBp (k s h : Nat) (g : List Nat) : (rowsP k s h g).length = s + h := by simp [rowsP]
theorem zD7 {k s h r : Nat} {g : List Nat} (hr : r < s) : (rowsP k s h g).getD r [] = rowL k s r := by
  unfold rowsP
  rw [List.getD_eq_getElem?_getD, List.getElem?_append_left (by simpa using hr)]
  simp [hr]
theorem zEc {k s h x : Nat} {g : List Nat} (hx : x < h) : (rowsP k s h g).getD (s + x) [] = rowH k s g x := by
  unfold rowsP
  rw [List.getD_eq_getElem?_getD, List.getElem?_append_right (by simp)]
  simp [hx]
theorem zKB {k s h : Nat} {g : List Nat} {f : Nat → List Nat} (h1 : ∀ r, r < s → f r = rowL k s r) (h2 : ∀ x, x < h → f (s + x) = rowH k s g x) : (List.range (s + h)).map f = rowsP k s h g := by
  apply List.ext_getElem?
  intro i
  rcases Nat.lt_or_ge i s with hi | hi
  · unfold rowsP
    rw [List.getElem?_append_left (by simpa using hi)]
    simp [hi, h1 i hi, show i < s + h by omega]
  · obtain ⟨x, rfl⟩ : ∃ x, i = s + x := ⟨i - s, by omega⟩
    unfold rowsP
    rw [List.getElem?_append_right (by simp)]
    rcases Nat.lt_or_ge x h with hx | hx
    · simp [hx, h2 x hx]
    · rw [List.getElem?_eq_none (by simp; omega), List.getElem?_eq_none (by simp; omega)]
theorem zED (k s r : Nat) : (rowL k s r).length ≤ k + s := zDO _ _
theorem zK5 (k s : Nat) (g : List Nat) (x : Nat) : (rowH k s g x).length ≤ k + s + 1 := by
  unfold rowH
  rw [List.length_append]
  have := zDO (fun p => (g.getD p 0).testBit x) (k + s)
  exact Nat.add_le_add this (Nat.le_refl _)
theorem zDC {s x : Nat} (h : x < 2 * s) : (x < s ∧ x % s = x) ∨ (s ≤ x ∧ x % s = x - s) := by
  rcases Nat.lt_or_ge x s with h' | h'
  · exact .inl ⟨h', Nat.mod_eq_of_lt h'⟩
  · exact .inr ⟨h', by rw [Nat.mod_eq_sub_mod h', Nat.mod_eq_of_lt (by omega)]⟩
theorem zH6 {s x : Nat} (h : x < 3 * s) : (x < s ∧ x % s = x) ∨ (s ≤ x ∧ x < 2 * s ∧ x % s = x - s) ∨ (2 * s ≤ x ∧ x % s = x - 2 * s) := by
  rcases Nat.lt_or_ge x (2 * s) with h' | h'
  · rcases zDC h' with h1 | h1
    · exact .inl h1
    · exact .inr (.inl ⟨h1.1, h', h1.2⟩)
  · refine .inr (.inr ⟨h', ?_⟩)
    rw [Nat.mod_eq_sub_mod (by omega), Nat.mod_eq_sub_mod (by omega), Nat.mod_eq_of_lt (by omega)]
    omega
theorem three {s i : Nat} (h3 : 3 ≤ s) (ho : s % 2 = 1) : i % s < s ∧ (i % s + ldA s i) % s < s ∧ (i % s + 2 * ldA s i) % s < s ∧ i % s ≠ (i % s + ldA s i) % s ∧ i % s ≠ (i % s + 2 * ldA s i) % s ∧ (i % s + ldA s i) % s ≠ (i % s + 2 * ldA s i) % s ∧ 1 ≤ ldA s i ∧ ldA s i ≤ s - 1 := by
  have hb : i % s < s := Nat.mod_lt _ (by omega)
  have ha : 1 ≤ ldA s i ∧ ldA s i ≤ s - 1 := by
    unfold ldA
    have := Nat.mod_lt (i / s) (show s - 1 > 0 by omega)
    omega
  generalize i % s = b at *
  generalize ldA s i = a at *
  have m1 := zDC (s := s) (x := b + a) (by omega)
  have m2 := zH6 (s := s) (x := b + 2 * a) (by omega)
  refine ⟨hb, Nat.mod_lt _ (by omega), Nat.mod_lt _ (by omega), ?_, ?_, ?_, ha⟩
  all_goals
    generalize (b + a) % s = u at *
    generalize (b + 2 * a) % s = v at *
    omega
theorem zMo {k s h l p : Nat} (H : OfP k s h l p) (h1 : 1 ≤ k) (h2 : k ≤ 128) : s % 2 = 1 := by
  have hb := H.bounds h1 h2
  obtain ⟨⟨x, hx, hs⟩, -⟩ := H
  have := hs.1.2 2 (by omega) (by omega)
  omega
def addAt (f : Nat → List Nat) (r x : Nat) : Nat → List Nat := fun d => if d = r then f d ++ [x] else f d
def fA (k s i : Nat) : Nat → List Nat := fun r => if r < s then (List.range i).filter (ldB k s r) else []
theorem zMi (k s : Nat) (r : Nat) : fA k s 0 r = [] := by unfold fA; split <;> rfl
theorem zM7 {k s i : Nat} (h3 : 3 ≤ s) (ho : s % 2 = 1) (hi : i < k) :
    addAt (addAt (addAt (fA k s i) (i % s) i) ((i % s + ldA s i) % s) i) ((i % s + 2 * ldA s i) % s) i = fA k s (i + 1) := by
  obtain ⟨l1, l2, l3, n1, n2, n3, -, -⟩ := three (i := i) h3 ho
  have hl : ∀ r, ldB k s r i = (decide (r = i % s) || decide (r = (i % s + ldA s i) % s) || decide (r = (i % s + 2 * ldA s i) % s)) := fun r => zG3 hi
  funext r
  unfold addAt fA
  generalize i % s = x at *
  generalize (x + ldA s i) % s = y at *
  generalize (x + 2 * ldA s i) % s = z at *
  by_cases hr : r < s
  · simp only [if_pos hr]
    by_cases e1 : r = x
    · subst e1
      rw [if_neg n2, if_neg n1, if_pos rfl, zEO (by rw [hl]; simp)]
    · by_cases e2 : r = y
      · subst e2
        rw [if_neg n3, if_pos rfl, if_neg e1, zEO (by rw [hl]; simp)]
      · by_cases e3 : r = z
        · subst e3
          rw [if_pos rfl, if_neg e2, if_neg e1, zEO (by rw [hl]; simp)]
        · rw [if_neg e3, if_neg e2, if_neg e1, zGo (by rw [hl]; simp [e1, e2, e3])]
  · simp only [if_neg hr]
    rw [if_neg (by omega), if_neg (by omega), if_neg (by omega)]
def fB (k s t : Nat) : Nat → List Nat := fun r => if r < s then (if r < t then rowL k s r else rowK k s r) else []
theorem zMj (k s : Nat) : fA k s k = fB k s 0 := by funext r; unfold fA fB; simp [rowK]
theorem zM2 {k s t : Nat} (ht : t < s) : addAt (fB k s t) t (k + t) = fB k s (t + 1) := by
  funext r
  unfold addAt fB
  by_cases hr : r < s
  · simp only [if_pos hr]
    by_cases e : r = t
    · subst e
      rw [if_pos rfl, if_neg (by omega), if_pos (by omega), zGa hr]
    · rw [if_neg e]
      by_cases h2 : r < t
      · rw [if_pos h2, if_pos (by omega)]
      · rw [if_neg h2, if_neg (by omega)]
  · simp only [if_neg hr]
    rw [if_neg (by omega)]
def fC (k s : Nat) (g : List Nat) (j y : Nat) : Nat → List Nat := fun r => if r < s then rowL k s r else colB g (if r - s < y then j + 1 else j) (r - s)
theorem zMr (k s : Nat) (g : List Nat) : fB k s s = fC k s g 0 0 := by
  funext r
  unfold fB fC
  by_cases hr : r < s
  · rw [if_pos hr, if_pos hr, if_pos hr]
  · rw [if_neg hr, if_neg hr, if_neg (by omega)]; rfl
theorem zKM {g : List Nat} {j x : Nat} (h : (g.getD j 0).testBit x = true) : colB g (j + 1) x = colB g j x ++ [j] := zEO h
theorem zIJ {g : List Nat} {j x : Nat} (h : (g.getD j 0).testBit x = false) : colB g (j + 1) x = colB g j x := zGo h
theorem zNl {k s : Nat} {g : List Nat} {j y : Nat} (h : (g.getD j 0).testBit y = true) : addAt (fC k s g j y) (s + y) j = fC k s g j (y + 1) := by
  funext r
  unfold addAt fC
  by_cases hr : r < s
  · simp only [if_pos hr]; rw [if_neg (by omega)]
  · simp only [if_neg hr]
    by_cases e : r = s + y
    · subst e
      rw [if_pos rfl, show s + y - s = y by omega, if_neg (by omega), if_pos (by omega), zKM h]
    · rw [if_neg e]
      by_cases h2 : r - s < y
      · rw [if_pos h2, if_pos (by omega)]
      · rw [if_neg h2, if_neg (by omega)]
theorem zNg {k s : Nat} {g : List Nat} {j y : Nat} (h : (g.getD j 0).testBit y = false) : fC k s g j y = fC k s g j (y + 1) := by
  funext r
  unfold fC
  by_cases hr : r < s
  · simp only [if_pos hr]
  · simp only [if_neg hr]
    by_cases e : r - s = y
    · rw [if_neg (by omega), if_pos (by omega), e, zIJ h]
    · by_cases h2 : r - s < y
      · rw [if_pos h2, if_pos (by omega)]
      · rw [if_neg h2, if_neg (by omega)]
theorem zM6 {k s h : Nat} {g : List Nat} {j r : Nat} (hr : r < s + h) : fC k s g j h r = fC k s g (j + 1) 0 r := by
  unfold fC
  by_cases h1 : r < s
  · rw [if_pos h1, if_pos h1]
  · rw [if_neg h1, if_neg h1, if_pos (by omega), if_neg (by omega)]
def fD (k s : Nat) (g : List Nat) (y : Nat) : Nat → List Nat := fun r => if r < s then rowL k s r else if r - s < y then rowH k s g (r - s) else colB g (k + s) (r - s)
theorem zMk (k s : Nat) (g : List Nat) : fC k s g (k + s) 0 = fD k s g 0 := by
  funext r
  unfold fC fD
  by_cases hr : r < s
  · rw [if_pos hr, if_pos hr]
  · rw [if_neg hr, if_neg hr, if_neg (by omega), if_neg (by omega)]
theorem zMH {k s : Nat} {g : List Nat} {y : Nat} : addAt (fD k s g y) (s + y) (k + s + y) = fD k s g (y + 1) := by
  funext r
  unfold addAt fD
  by_cases hr : r < s
  · simp only [if_pos hr]; rw [if_neg (by omega)]
  · simp only [if_neg hr]
    by_cases e : r = s + y
    · subst e
      rw [if_pos rfl, show s + y - s = y by omega, if_neg (by omega), if_pos (by omega)]; rfl
    · rw [if_neg e]
      by_cases h2 : r - s < y
      · rw [if_pos h2, if_pos (by omega)]
      · rw [if_neg h2, if_neg (by omega)]
theorem zNV (k s h : Nat) (g : List Nat) : (List.range (s + h)).map (fD k s g h) = rowsP k s h g :=
  zKB (fun r hr => by unfold fD; rw [if_pos hr]) (fun x hx => by unfold fD; rw [if_neg (by omega), show s + x - s = x by omega, if_pos hx])
theorem zN1 {k s i : Nat} (r : Nat) (hi : i ≤ 1000) : (fA k s i r).length ≤ 1000 := by
  unfold fA
  split
  · exact Nat.le_trans (zDO _ _) hi
  · simp
theorem zN3 {k s t : Nat} (r : Nat) (h : k + s ≤ 1000) : (fB k s t r).length ≤ 1000 := by
  unfold fB
  split
  · split
    · exact Nat.le_trans (zED _ _ _) h
    · exact Nat.le_trans (zDO _ _) (by omega)
  · simp
theorem zNo {k s : Nat} {g : List Nat} {j y : Nat} (r : Nat) (h : k + s ≤ 1000) (hj : j < 1000) : (fC k s g j y r).length ≤ 1000 := by
  unfold fC
  split
  · exact Nat.le_trans (zED _ _ _) h
  · refine Nat.le_trans (zDO _ _) ?_
    split <;> omega
theorem zNP {k s : Nat} {g : List Nat} {y : Nat} (r : Nat) (h : k + s ≤ 900) : (fD k s g y r).length ≤ 1000 := by
  unfold fD
  split
  · exact Nat.le_trans (zED _ _ _) (by omega)
  · split
    · exact Nat.le_trans (zK5 _ _ _ _) (by omega)
    · exact Nat.le_trans (zDO _ _) (by omega)
theorem zDk {f : Nat → List Nat} {r x n : Nat} (h : ∀ d, (f d).length ≤ n) (d : Nat) : (addAt f r x d).length ≤ n + 1 := by
  unfold addAt
  have := h d
  split
  · rw [List.length_append]; simp; exact this
  · omega
theorem zFE (p : Nat → Prop) : ∀ n, p n → ∃ m, p m ∧ (∀ j, j < m → ¬ p j) ∧ m ≤ n := by
  intro n
  induction n using Nat.strongRecOn with
  | _ n ih =>
    intro h
    by_cases hj : ∃ j, j < n ∧ p j
    · obtain ⟨j, h1, h2⟩ := hj
      obtain ⟨m, a, b, c⟩ := ih j h1 h2
      exact ⟨m, a, b, by omega⟩
    · exact ⟨n, h, fun j h1 h2 => hj ⟨j, h1, h2⟩, Nat.le_refl _⟩
theorem gr_ex (w n : Nat) : ∃ l, IsGr w n l := by
  obtain ⟨m, h1, h2, h3⟩ := zFE (fun k => (graysTo w k).length = n ∨ k = 1048576) 1048576 (.inr rfl)
  have key : ∀ j, j ≤ m → (graysTo w j).length ≤ n := by
    intro j
    induction j with
    | zero => intro _; exact Nat.zero_le _
    | succ j ih =>
      intro hj
      have a1 := ih (by omega)
      have a2 : (graysTo w j).length ≠ n := fun e => h2 j (by omega) (.inl e)
      rw [zA3, List.length_append]
      have : (if pop (gry j) = w then [gry j] else []).length ≤ 1 := by split <;> simp
      omega
  exact ⟨_, m, h3, rfl, key m (Nat.le_refl _), h1⟩
theorem p3 : IsP 3 := zAX (by decide) 2 (fun d h1 h2 => by omega) (by decide)
end

section
theorem zCO {α : Type} [BEq α] [LawfulBEq α] : ∀ {l m : List α}, l.Nodup → (∀ x ∈ l, x ∈ m) → l.length ≤ m.length := by
  intro l
  induction l with
  | nil => intro m _ _; exact Nat.zero_le _
  | cons a l ih =>
    intro m hd hs
    have ha := hs a List.mem_cons_self
    have h1 := ih (m := m.erase a) (List.nodup_cons.1 hd).2 (fun x hx => by
      have hne : x ≠ a := fun e => (List.nodup_cons.1 hd).1 (e ▸ hx)
      exact (List.mem_erase_of_ne hne).2 (hs x (List.mem_cons_of_mem _ hx)))
    rw [List.length_erase_of_mem ha] at h1
    have := List.length_pos_of_mem ha
    simp only [List.length_cons]
    omega
def seqA (p st a j : Nat) : Nat := (a + j * st) % p
theorem zFa {p st a : Nat} (h : a < p) : seqA p st a 0 = a := by unfold seqA; rw [Nat.zero_mul, Nat.add_zero, Nat.mod_eq_of_lt h]
theorem zE6 (p st a j : Nat) : seqA p st a (j + 1) = (seqA p st a j + st) % p := by
  unfold seqA
  rw [Nat.mod_add_mod, Nat.succ_mul, Nat.add_assoc]
theorem zJL {p st a j : Nat} (h : 0 < p) : seqA p st a j < p := Nat.mod_lt _ h
theorem zFM {p s : Nat} (hp : IsP p) (h1 : 1 ≤ s) (h2 : s < p) : Nat.Coprime p s := by
  have hg1 : Nat.gcd p s ∣ p := Nat.gcd_dvd_left _ _
  have hg2 : Nat.gcd p s ∣ s := Nat.gcd_dvd_right _ _
  have hg3 : Nat.gcd p s ≤ s := Nat.le_of_dvd (by omega) hg2
  have hg4 : 0 < Nat.gcd p s := Nat.pos_of_dvd_of_pos hg2 (by omega)
  refine Classical.byContradiction fun hne => hp.2 (Nat.gcd p s) ?_ (by omega) (Nat.mod_eq_zero_of_dvd hg1)
  have : Nat.gcd p s ≠ 1 := hne
  omega
theorem zGD {p st a i j : Nat} (hp : IsP p) (h1 : 1 ≤ st) (h2 : st < p) (hi : i < j) (hj : j < p) : seqA p st a i ≠ seqA p st a j := by
  intro e
  unfold seqA at e
  have hd : p ∣ (j - i) * st := by
    have e1 := Nat.sub_mod_eq_zero_of_mod_eq e.symm
    have e2 : a + j * st - (a + i * st) = (j - i) * st := by rw [Nat.sub_mul]; omega
    rw [e2] at e1
    exact Nat.dvd_of_mod_eq_zero e1
  have h3 : p ∣ j - i := (zFM hp h1 h2).dvd_of_dvd_mul_right hd
  have := Nat.le_of_dvd (by omega) h3
  omega
def trW (l p st a j : Nat) : List Nat := ((List.range j).map (seqA p st a)).filter fun x => decide (x < l)
theorem zEB (l p st a : Nat) : trW l p st a 0 = [] := rfl
theorem zCJ (l p st a j : Nat) : trW l p st a (j + 1) = trW l p st a j ++ if seqA p st a j < l then [seqA p st a j] else [] := by
  unfold trW
  rw [List.range_succ, List.map_append, List.filter_append]
  congr 1
  by_cases h : seqA p st a j < l <;> simp [h]
theorem zL5 {l p st a j : Nat} (h : seqA p st a j < l) : trW l p st a (j + 1) = trW l p st a j ++ [seqA p st a j] := by rw [zCJ, if_pos h]
theorem zGx {l p st a j : Nat} (h : ¬ seqA p st a j < l) : trW l p st a (j + 1) = trW l p st a j := by rw [zCJ, if_neg h, List.append_nil]
theorem zIm (l p st a j : Nat) : ∀ d, trW l p st a j <+: trW l p st a (j + d)
  | 0 => List.prefix_refl _
  | d + 1 => (zIm l p st a j d).trans (by rw [← Nat.add_assoc, zCJ]; exact List.prefix_append _ _)
theorem zIM {l p st a j m : Nat} (h : j ≤ m) : trW l p st a j <+: trW l p st a m := by
  have := zIm l p st a j (m - j)
  rwa [show j + (m - j) = m by omega] at this
theorem zFi {l p st a j : Nat} (hp : IsP p) (h1 : 1 ≤ st) (h2 : st < p) (hj : j ≤ p) : (trW l p st a j).Nodup := by
  unfold trW
  refine List.Pairwise.filter _ ?_
  rw [List.pairwise_map]
  refine List.Pairwise.imp_of_mem ?_ (List.pairwise_lt_range)
  intro x y hx hy hxy
  exact zGD hp h1 h2 hxy (by have := List.mem_range.1 hy; omega)
theorem zLW {l p st a j x : Nat} (h : x ∈ trW l p st a j) : x < l := of_decide_eq_true (List.mem_filter.1 h).2
theorem zI4 {p st a v : Nat} (hp : IsP p) (h1 : 1 ≤ st) (h2 : st < p) (hv : v < p) : ∃ j, j < p ∧ seqA p st a j = v := by
  refine Classical.byContradiction fun hno => ?_
  have hd : (v :: (List.range p).map (seqA p st a)).Nodup := by
    rw [List.nodup_cons]
    refine ⟨fun hm => ?_, ?_⟩
    · obtain ⟨j, hj, e⟩ := List.mem_map.1 hm
      exact hno ⟨j, List.mem_range.1 hj, e⟩
    · unfold List.Nodup
      rw [List.pairwise_map]
      refine List.Pairwise.imp_of_mem ?_ (List.pairwise_lt_range)
      intro x y hx hy hxy
      exact zGD hp h1 h2 hxy (List.mem_range.1 hy)
  have := zCO (m := List.range p) hd (fun x hx => by
    rw [List.mem_range]
    rcases List.mem_cons.1 hx with rfl | hx
    · exact hv
    · obtain ⟨j, -, rfl⟩ := List.mem_map.1 hx
      exact zJL (by omega))
  simp at this
  omega
theorem zEg {l p st a : Nat} (hp : IsP p) (h1 : 1 ≤ st) (h2 : st < p) (hl : l ≤ p) : (trW l p st a p).length = l := by
  refine Nat.le_antisymm ?_ ?_
  · have := zCO (m := List.range l) (zFi (l := l) (a := a) hp h1 h2 (Nat.le_refl _)) (fun x hx => List.mem_range.2 (zLW hx))
    rwa [List.length_range] at this
  · have := zCO (l := List.range l) (m := trW l p st a p) List.nodup_range (fun x hx => by
      have hx := List.mem_range.1 hx
      obtain ⟨j, hj, e⟩ := zI4 (a := a) hp h1 h2 (show x < p by omega)
      exact List.mem_filter.2 ⟨List.mem_map.2 ⟨j, List.mem_range.2 hj, e⟩, decide_eq_true hx⟩)
    rwa [List.length_range] at this
def IsTr (l p st a d : Nat) (w : List Nat) : Prop := w.length = d ∧ ∃ j, j ≤ p ∧ w = trW l p st a j
theorem IsTr.unique {l p st a d : Nat} {v w : List Nat} (h : IsTr l p st a d v) (h' : IsTr l p st a d w) : v = w := by
  obtain ⟨h1, i, -, rfl⟩ := h
  obtain ⟨h2, j, -, rfl⟩ := h'
  rcases Nat.le_total i j with h | h
  · exact (zIM h).eq_of_length (by omega)
  · exact ((zIM h).eq_of_length (by omega)).symm
theorem IsTr.nodup {l p st a d : Nat} {w : List Nat} (h : IsTr l p st a d w) (hp : IsP p) (h1 : 1 ≤ st) (h2 : st < p) : w.Nodup := by
  obtain ⟨-, j, hj, rfl⟩ := h
  exact zFi hp h1 h2 hj
theorem IsTr.lt {l p st a d x : Nat} {w : List Nat} (h : IsTr l p st a d w) (hx : x ∈ w) : x < l := by
  obtain ⟨-, j, hj, rfl⟩ := h
  exact zLW hx
theorem zKO {l p st a j : Nat} (hp : IsP p) (h1 : 1 ≤ st) (h2 : st < p) (hl : l ≤ p) (hlt : (trW l p st a j).length < l) : ∃ i, j ≤ i ∧ i < p ∧ seqA p st a i < l ∧ ∀ m, j ≤ m → m < i → ¬ seqA p st a m < l := by
  have key : ∀ d, (∀ m, j ≤ m → m < j + d → ¬ seqA p st a m < l) → trW l p st a (j + d) = trW l p st a j := by
    intro d
    induction d with
    | zero => intro _; rfl
    | succ d ih =>
      intro hn
      rw [← Nat.add_assoc, zGx (hn (j + d) (by omega) (by omega)), ih (fun m h1 h2 => hn m h1 (by omega))]
  have hjp : j < p := by
    refine Classical.byContradiction fun hge => ?_
    have e := (zIM (l := l) (p := p) (st := st) (a := a) (show p ≤ j by omega)).length_le
    rw [zEg hp h1 h2 hl] at e
    omega
  have hex : ∃ i, j ≤ i ∧ i < p ∧ seqA p st a i < l := by
    refine Classical.byContradiction fun hno => ?_
    have e := key (p - j) (fun m h1 h2 h3 => hno ⟨m, h1, by omega, h3⟩)
    rw [show j + (p - j) = p by omega] at e
    have := zEg (a := a) hp h1 h2 hl
    rw [e] at this
    omega
  obtain ⟨i, hi1, hi2, hi3⟩ := hex
  induction i using Nat.strongRecOn with
  | _ i ih =>
    by_cases h : ∀ m, j ≤ m → m < i → ¬ seqA p st a m < l
    · exact ⟨i, hi1, hi2, hi3, h⟩
    · obtain ⟨m, hm⟩ := Classical.not_forall.1 h
      obtain ⟨hm1, hm⟩ := Classical.not_imp.1 hm
      obtain ⟨hm2, hm3⟩ := Classical.not_imp.1 hm
      exact ih m hm2 hm1 (by omega) (Classical.byContradiction hm3)
end

section
def dgTab : List (Int × Int) := [(10241, 1), (491582, 2), (712794, 3), (831695, 4), (948446, 10), (1032189, 11), (1048576, 40)]
def dgOf (v : Int) : Int := if v < 10241 then 1 else if v < 491582 then 2 else if v < 712794 then 3 else if v < 831695 then 4 else if v < 948446 then 10 else if v < 1032189 then 11 else 40
theorem zKb (v : Int) : 1 ≤ dgOf v ∧ dgOf v ≤ 40 := by
  unfold dgOf
  repeat' split
  all_goals omega
end

section
def foldN (h k : Nat) : Nat := h ^^^ h >>> k
def mixN (x s : Nat) : Nat := foldN (foldN (foldN ((x * 2654435761 + s) % 4294967296) 16 * 2246822507 % 4294967296) 13 * 3266489909 % 4294967296) 16
theorem zMN (h k : Nat) (hh : h < 4294967296) : foldN h k < 4294967296 := by
  unfold foldN
  refine Nat.xor_lt_two_pow (n := 32) hh ?_
  rw [Nat.shiftRight_eq_div_pow]; exact Nat.lt_of_le_of_lt (Nat.div_le_self _ _) hh
theorem zLh (x : Nat) : x % 4294967296 < 4294967296 := Nat.mod_lt _ (by decide)
theorem zMu (x s : Nat) : mixN x s < 4294967296 := zMN _ _ (zLh _)
end

section
def trD (l y : Nat) : Nat := min (dgOf ((mixN y 0 % 1048576 : Nat) : Int)).toNat l
def trS (p y : Nat) : Nat := 1 + mixN y 1 % (p - 1)
def trA (p y : Nat) : Nat := mixN y 2 % p
theorem zIN {l y : Nat} (h : 1 ≤ l) : 1 ≤ trD l y ∧ trD l y ≤ l := by
  have := zKb ((mixN y 0 % 1048576 : Nat) : Int)
  unfold trD
  omega
theorem zEW {p y : Nat} (h : 2 ≤ p) : 1 ≤ trS p y ∧ trS p y < p := by
  have := Nat.mod_lt (mixN y 1) (show p - 1 > 0 by omega)
  unfold trS
  omega
theorem zL0 {p y : Nat} (h : 2 ≤ p) : trA p y < p := Nat.mod_lt _ (by omega)
end
end Go.Proofs.YtkfimdpcadbcpaaGreatDoor
