import Derived.Test.YtkhdjjcflbdegaaGreatDoorG10

section
/- Layer 12's mathematics: a system of full rank, solved column by column with a swap and sums; lines of truths and bytes as vectors. No program. -/
namespace Go.Proofs.YtkhdjjcflbdegaaGreatDoor

theorem pivot_ex {R : List Vec} {n c : Nat} (h : GI R c c (fun j => j)) (hc : c < n) (hv : ∃ v, ValV n R c v) : ∃ i, c ≤ i ∧ i < R.length ∧ R.getD i vzero c = true := by
  apply Classical.byContradiction
  intro hn
  have hs : GI R c (c + 1) (fun j => j) := h.skip fun k h1 h2 => by
    cases e : R.getD k vzero c
    · rfl
    · exact absurd ⟨k, h1, h2, e⟩ hn
  obtain ⟨v, hv⟩ := hv
  have hb : ∀ d, d < n → v d = decide (d = c) := fun d hd => by
    have := congrFun hv.2 d
    rwa [proj_low hd] at this
  have h1 := hs.reduced hv.1 c (by omega)
  rw [comb_none fun j hj => by rw [hb j (by omega)]; exact decide_eq_false (by omega), vadd_zero, hb c hc, decide_eq_true rfl] at h1
  cases h1
theorem GI.next {R R' : List Vec} {c i : Nat} (h : GI R c c (fun j => j)) (hi : c ≤ i) (hil : i < R.length) (hc : R.getD i vzero c = true) (hlen : R'.length = R.length)
    (hR : ∀ k, k < R.length → R'.getD k vzero = clf (swf R c i) c c k) : GI R' (c + 1) (c + 1) (fun j => j) := by
  have h1 := h.step hi hil hc hlen hR
  rwa [show (fun j => if j = c then c else j) = (fun j : Nat => j) from funext fun j => by
    by_cases e : j = c
    · rw [if_pos e, e]
    · rw [if_neg e]] at h1
theorem GI.solved {R : List Vec} {n c : Nat} (h : GI R n n (fun j => j)) (hl : R.length = n) (hc : c < n) : ValV n R c (R.getD c vzero) := by
  refine ⟨.mem (getD_mem (by omega)), funext fun d => ?_⟩
  by_cases hd : d < n
  · rw [proj_low hd]
    unfold unitV
    by_cases e : d = c
    · subst e
      rw [decide_eq_true rfl]
      exact (h.lead d hd).1.1
    · rw [decide_eq_false e]
      exact h.one d c hd (by omega) (fun e2 => e e2.symm)
  · unfold proj unitV
    rw [if_neg hd, decide_eq_false (by omega)]
/-- What a solved system tells. -/
theorem GI.all {R K : List Vec} {n size : Nat} (h : GI R n n (fun j => j)) (hl : R.length = n) (e : SpEq R K) : Tells n size K ((List.range n).map fun c => symV n size (R.getD c vzero)) := by
  refine ⟨by simp, fun c hc => ⟨_, (h.solved hl hc).congr e, ?_⟩⟩
  simp [List.getD_eq_getElem?_getD, hc]
/-- What is known by a system is known by one of the same span. -/
theorem val_ex {R K : List Vec} {n c : Nat} (e : SpEq R K) (h : ∃ v, ValV n K c v) : ∃ v, ValV n R c v := by
  obtain ⟨v, hv⟩ := h
  exact ⟨v, hv.congr e.symm⟩

/-! ### lines -/
def lineV (r : List Bool) (s : List Nat) : Vec := bitB (r ++ bitsOf s)
theorem lineV_row {r : List Bool} {s : List Nat} {c : Nat} (h : c < r.length) : lineV r s c = r.getD c false := by
  unfold lineV bitB
  rw [List.getD_eq_getElem?_getD, List.getElem?_append_left h, List.getD_eq_getElem?_getD]
theorem lineV_sym {r : List Bool} {s : List Nat} {n i b : Nat} (hn : r.length = n) (hi : i < s.length) (hb : b < 8) : lineV r s (n + 8 * i + b) = (s.getD i 0).testBit b := by
  unfold lineV bitB bitsOf bitsTo
  rw [List.getD_eq_getElem?_getD, List.getElem?_append_right (by omega), hn, show n + 8 * i + b - n = 8 * i + b by omega]
  rw [List.getElem?_map, List.getElem?_range (by omega)]
  simp only [Option.map_some, Option.getD_some]
  rw [show (8 * i + b) / 8 = i by omega, show (8 * i + b) % 8 = b by omega]
theorem lineV_out {r : List Bool} {s : List Nat} {c : Nat} (h : r.length + 8 * s.length ≤ c) : lineV r s c = false :=
  bitB_out (by rw [List.length_append, bitsOf, bitsTo_length]; exact h)
theorem symV_line {r : List Bool} {s : List Nat} {n : Nat} (hn : r.length = n) (h : Octets s) : symV n s.length (lineV r s) = s := by
  apply ext_getD (by simp [symV])
  intro i hi
  have hi' : i < s.length := by simpa [symV] using hi
  rw [show (symV n s.length (lineV r s)).getD i 0 = byteAt (lineV r s) (n + 8 * i) by simp [symV, List.getD_eq_getElem?_getD, hi']]
  exact byteAt_byte (h.getD i) fun b hb => lineV_sym hn hi' hb
theorem lineV_add {r1 r2 : List Bool} {s1 s2 : List Nat} (hr : r1.length = r2.length) (hs : s1.length = s2.length) : lineV (sumB r1 r2) (xorW s1 s2) = vadd (lineV r1 s1) (lineV r2 s2) := by
  have hl : (sumB r1 r2).length = r1.length := sumB_length _ _
  funext c
  by_cases h1 : c < r1.length
  · have hb := congrFun (bitB_sum hr) c
    rw [lineV_row (by omega)]
    simp only [vadd, lineV_row h1, lineV_row (show c < r2.length by omega)]
    exact hb
  · by_cases h2 : c < r1.length + 8 * s1.length
    · obtain ⟨i, b, hi, hb, e⟩ : ∃ i b, i < s1.length ∧ b < 8 ∧ c = r1.length + 8 * i + b := ⟨(c - r1.length) / 8, (c - r1.length) % 8, by omega, by omega, by omega⟩
      subst e
      rw [lineV_sym hl (by rw [xorW_length hs]; exact hi) hb, xorW_getD hs, Nat.testBit_xor]
      simp only [vadd, lineV_sym rfl hi hb, lineV_sym hr.symm (show i < s2.length by omega) hb]
    · rw [lineV_out (by rw [hl, xorW_length hs]; omega)]
      simp only [vadd, lineV_out (show r1.length + 8 * s1.length ≤ c by omega), lineV_out (show r2.length + 8 * s2.length ≤ c by omega)]
      rfl
/-- A row's truths as the equation of its places. -/
theorem lineV_eq {l : Nat} {r : List Bool} {R y : List Nat} (hl : r.length = l) (hR : ∀ c ∈ R, c < l) (h : ∀ c, c < l → r.getD c false = decide (c ∈ R)) : lineV r y = eqL l R y := by
  have e : r = truthsB (packR l R) l := by
    apply List.ext_getElem (by rw [truthsB_length, hl])
    intro c h1 h2
    have h3 := h c (by omega)
    rw [List.getD_eq_getElem?_getD, List.getElem?_eq_getElem h1, Option.getD_some] at h3
    rw [h3]
    simp only [truthsB, List.getElem_map, List.getElem_range]
    exact (packR_bit hR c).symm
  unfold eqL longV longB lineV
  rw [← e]

/-! ### a system of full rank -/
theorem span_full {L : List Vec} {n c : Nat} (hlow : ∀ r ∈ L, ∀ d, n ≤ d → r d = false) (hr : rk L = n) (hc : c < n) : Sp L (unitV c) := by
  apply Classical.byContradiction
  intro hn
  have h1 := rk_out hn
  have h2 : rk (L ++ [unitV c]) ≤ n := rk_le_cols fun r hr d hd => by
    rcases List.mem_append.1 hr with h | h
    · exact hlow r h d hd
    · rw [List.mem_singleton.1 h]
      exact decide_eq_false (by omega)
  omega
theorem val_full {k s h l p seed size : Nat} {src : Nat → List Nat} (hl : l = k + s + h) {j : Nat} (hr : rankA k s h l p seed (List.range j) = l) {c : Nat} (hc : c < l) : ∃ v, ValV l (sysE k s h l p seed size src j) c v := by
  refine ValV.exists ?_
  rw [sysE_proj hl]
  refine span_full (fun r hr d hd => ?_) hr hc
  obtain ⟨q, hq, rfl⟩ := List.mem_map.1 hr
  unfold rowVec
  refine decide_eq_false fun hm => ?_
  have := (rowsA_in hl q hq).1 d hm
  omega
theorem Tells.unique {l size : Nat} {K : List Vec} {V U : List (List Nat)} (hc : Cons l K) (h : Tells l size K V) (h' : Tells l size K U) : V = U := by
  apply List.ext_getElem (by rw [h.1, h'.1])
  intro c h1 h2
  obtain ⟨x, hx, ex⟩ := h.2 c (by rw [← h.1]; exact h1)
  obtain ⟨y, hy, ey⟩ := h'.2 c (by rw [← h.1]; exact h1)
  rw [List.getD_eq_getElem?_getD, List.getElem?_eq_getElem h1, Option.getD_some] at ex
  rw [List.getD_eq_getElem?_getD, List.getElem?_eq_getElem h2, Option.getD_some] at ey
  rw [ex, ey, hx.unique hc hy]
/-- Sums of sums. -/
theorem colX_xor {A B C : Nat → List Nat} {j : Nat} : ∀ r : List Nat, (∀ c ∈ r, (C c).getD j 0 = (A c).getD j 0 ^^^ (B c).getD j 0) → colX (r.map C) j = colX (r.map A) j ^^^ colX (r.map B) j
  | [], _ => by simp [colX_nil]
  | c :: r, h => by
    have ih := colX_xor r fun d hd => h d (List.mem_cons_of_mem _ hd)
    have hc := h c List.mem_cons_self
    have e : ∀ D : Nat → List Nat, colX ((c :: r).map D) j = (D c).getD j 0 ^^^ colX (r.map D) j := fun D => by
      rw [List.map_cons, show D c :: r.map D = [D c] ++ r.map D from rfl, colX_append, colX_one]
    rw [e A, e B, e C, ih, hc]
    rw [Nat.xor_assoc, Nat.xor_assoc, ← Nat.xor_assoc ((B c).getD j 0), ← Nat.xor_assoc (colX (r.map A) j), Nat.xor_comm ((B c).getD j 0)]
theorem sum_xor {size : Nat} {A B C : Nat → List Nat} {r : List Nat} (hA : ∀ c ∈ r, (A c).length = size) (hB : ∀ c ∈ r, (B c).length = size) (h : ∀ c ∈ r, xorW (A c) (B c) = C c) :
    xorW (sumS size (r.map A)) (sumS size (r.map B)) = sumS size (r.map C) := by
  have hl : (sumS size (r.map A)).length = (sumS size (r.map B)).length := by rw [sumS_length, sumS_length]
  apply ext_getD (by rw [xorW_length hl, sumS_length, sumS_length])
  intro j hj
  have hj : j < size := by rwa [xorW_length hl, sumS_length] at hj
  rw [xorW_getD hl, sumS_getD hj, sumS_getD hj, sumS_getD hj]
  exact (colX_xor r fun c hc => by rw [← h c hc, xorW_getD (by rw [hA c hc, hB c hc])]).symm
/-- The encoding symbol of a number: what the middle symbols say of it. -/
theorem symbol_sums {k s h l p seed size j e : Nat} {a b : Nat → List Nat} {A B C : List (List Nat)} (hab : ∀ e, e < j → (a e).length = (b e).length) (hl : l = k + s + h)
    (hA : Tells l size (sysE k s h l p seed size a j) A) (hB : Tells l size (sysE k s h l p seed size b j) B) (hC : Tells l size (sysE k s h l p seed size (fun e => xorW (a e) (b e)) j) C)
    (cA : Cons l (sysE k s h l p seed size a j)) (cB : Cons l (sysE k s h l p seed size b j)) (cC : Cons l (sysE k s h l p seed size (fun e => xorW (a e) (b e)) j)) :
    xorW (sumS size ((rowE l p seed e).map fun c => A.getD c [])) (sumS size ((rowE l p seed e).map fun c => B.getD c [])) = sumS size ((rowE l p seed e).map fun c => C.getD c []) := by
  have hrow : ∀ {V : List (List Nat)} {K : List Vec}, Tells l size K V → ∀ c ∈ rowE l p seed e, (V.getD c []).length = size := fun {V K} h c hc => by
    have hcl : c < V.length := by rw [h.1]; exact rowE_lt c hc
    exact (h.row _ (by rw [List.getD_eq_getElem?_getD, List.getElem?_eq_getElem hcl]; exact List.getElem_mem hcl)).1
  exact sum_xor (hrow hA) (hrow hB) fun c hc => tells_sum hab hl hA hB hC cA cB cC (rowE_lt c hc)
/-- The first encoding symbols are the source symbols. -/
theorem symbol_source {k s h l p seed size j e : Nat} {src : Nat → List Nat} {V : List (List Nat)} (hV : Tells l size (sysE k s h l p seed size src j) V) (hc : Cons l (sysE k s h l p seed size src j)) (he : e < j) (hy : (src e).length = size) (ho : Octets (src e)) :
    sumS size ((rowE l p seed e).map fun c => V.getD c []) = src e :=
  hV.holds hc rowE_lt (rowE_nodup l p seed e) hy ho (.mem (mem_sysE he))
/-- The encoding symbol of a number, by middle symbols. -/
noncomputable def symE (l p sd size : Nat) (V : List (List Nat)) (e : Nat) : List Nat := sumS size ((rowE l p sd e).map fun c => V.getD c [])
theorem symE_length (l p sd size : Nat) (V : List (List Nat)) (e : Nat) : (symE l p sd size V e).length = size := sumS_length _ _
end Go.Proofs.YtkhdjjcflbdegaaGreatDoor
end
