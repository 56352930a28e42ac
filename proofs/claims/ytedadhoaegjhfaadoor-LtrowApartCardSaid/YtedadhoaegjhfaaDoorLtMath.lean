/- Mathematics of package ltrow: steps modulo a prime go through all places once. -/
import Derived.Test.YtedadhoaegjhfaaDoorPaMath
namespace Go.Proofs.YtedadhoaegjhfaaDoor

theorem nodup_sub {α : Type} [BEq α] [LawfulBEq α] : ∀ {l m : List α}, l.Nodup → (∀ x ∈ l, x ∈ m) → l.length ≤ m.length := by
  intro l
  induction l with
  | nil => intro m _ _; exact Nat.zero_le _
  | cons a l ih =>
    intro m hd hs
    have ha := hs a List.mem_cons_self
    have h1 := ih (m := m.erase a) (List.nodup_cons.1 hd).2 (fun x hx => by
      have hne : x ≠ a := fun e => (List.nodup_cons.1 hd).1 (e ▸ hx)
      exact (List.mem_erase_of_ne hne).2 (hs x (List.mem_cons_of_mem _ hx)))
    rw [List.length_erase_of_mem ha] at h1
    have := List.length_pos_of_mem ha
    simp only [List.length_cons]
    omega

/-- The j-th place on a trip. -/
def seqA (p st a j : Nat) : Nat := (a + j * st) % p
theorem seqA_zero {p st a : Nat} (h : a < p) : seqA p st a 0 = a := by unfold seqA; rw [Nat.zero_mul, Nat.add_zero, Nat.mod_eq_of_lt h]
theorem seqA_succ (p st a j : Nat) : seqA p st a (j + 1) = (seqA p st a j + st) % p := by
  unfold seqA
  rw [Nat.mod_add_mod, Nat.succ_mul, Nat.add_assoc]
theorem seqA_lt {p st a j : Nat} (h : 0 < p) : seqA p st a j < p := Nat.mod_lt _ h
theorem isP_coprime {p s : Nat} (hp : IsP p) (h1 : 1 ≤ s) (h2 : s < p) : Nat.Coprime p s := by
  have hg1 : Nat.gcd p s ∣ p := Nat.gcd_dvd_left _ _
  have hg2 : Nat.gcd p s ∣ s := Nat.gcd_dvd_right _ _
  have hg3 : Nat.gcd p s ≤ s := Nat.le_of_dvd (by omega) hg2
  have hg4 : 0 < Nat.gcd p s := Nat.pos_of_dvd_of_pos hg2 (by omega)
  refine Classical.byContradiction fun hne => hp.2 (Nat.gcd p s) ?_ (by omega) (Nat.mod_eq_zero_of_dvd hg1)
  have : Nat.gcd p s ≠ 1 := hne
  omega
theorem seqA_inj {p st a i j : Nat} (hp : IsP p) (h1 : 1 ≤ st) (h2 : st < p) (hi : i < j) (hj : j < p) : seqA p st a i ≠ seqA p st a j := by
  intro e
  unfold seqA at e
  have hd : p ∣ (j - i) * st := by
    have e1 := Nat.sub_mod_eq_zero_of_mod_eq e.symm
    have e2 : a + j * st - (a + i * st) = (j - i) * st := by rw [Nat.sub_mul]; omega
    rw [e2] at e1
    exact Nat.dvd_of_mod_eq_zero e1
  have h3 : p ∣ j - i := (isP_coprime hp h1 h2).dvd_of_dvd_mul_right hd
  have := Nat.le_of_dvd (by omega) h3
  omega

/-- All places that a trip comes to in its first j steps, of those below l. -/
def trW (l p st a j : Nat) : List Nat := ((List.range j).map (seqA p st a)).filter fun x => decide (x < l)
theorem trW_zero (l p st a : Nat) : trW l p st a 0 = [] := rfl
theorem trW_succ (l p st a j : Nat) : trW l p st a (j + 1) = trW l p st a j ++ if seqA p st a j < l then [seqA p st a j] else [] := by
  unfold trW
  rw [List.range_succ, List.map_append, List.filter_append]
  congr 1
  by_cases h : seqA p st a j < l <;> simp [h]
theorem trW_in {l p st a j : Nat} (h : seqA p st a j < l) : trW l p st a (j + 1) = trW l p st a j ++ [seqA p st a j] := by rw [trW_succ, if_pos h]
theorem trW_out {l p st a j : Nat} (h : ¬ seqA p st a j < l) : trW l p st a (j + 1) = trW l p st a j := by rw [trW_succ, if_neg h, List.append_nil]
theorem trW_add (l p st a j : Nat) : ∀ d, trW l p st a j <+: trW l p st a (j + d)
  | 0 => List.prefix_refl _
  | d + 1 => (trW_add l p st a j d).trans (by rw [← Nat.add_assoc, trW_succ]; exact List.prefix_append _ _)
theorem trW_le {l p st a j m : Nat} (h : j ≤ m) : trW l p st a j <+: trW l p st a m := by
  have := trW_add l p st a j (m - j)
  rwa [show j + (m - j) = m by omega] at this
theorem trW_nodup {l p st a j : Nat} (hp : IsP p) (h1 : 1 ≤ st) (h2 : st < p) (hj : j ≤ p) : (trW l p st a j).Nodup := by
  unfold trW
  refine List.Pairwise.filter _ ?_
  rw [List.pairwise_map]
  refine List.Pairwise.imp_of_mem ?_ (List.pairwise_lt_range)
  intro x y hx hy hxy
  exact seqA_inj hp h1 h2 hxy (by have := List.mem_range.1 hy; omega)
theorem trW_lt {l p st a j x : Nat} (h : x ∈ trW l p st a j) : x < l := of_decide_eq_true (List.mem_filter.1 h).2
theorem seqA_onto {p st a v : Nat} (hp : IsP p) (h1 : 1 ≤ st) (h2 : st < p) (hv : v < p) : ∃ j, j < p ∧ seqA p st a j = v := by
  refine Classical.byContradiction fun hno => ?_
  have hd : (v :: (List.range p).map (seqA p st a)).Nodup := by
    rw [List.nodup_cons]
    refine ⟨fun hm => ?_, ?_⟩
    · obtain ⟨j, hj, e⟩ := List.mem_map.1 hm
      exact hno ⟨j, List.mem_range.1 hj, e⟩
    · unfold List.Nodup
      rw [List.pairwise_map]
      refine List.Pairwise.imp_of_mem ?_ (List.pairwise_lt_range)
      intro x y hx hy hxy
      exact seqA_inj hp h1 h2 hxy (List.mem_range.1 hy)
  have := nodup_sub (m := List.range p) hd (fun x hx => by
    rw [List.mem_range]
    rcases List.mem_cons.1 hx with rfl | hx
    · exact hv
    · obtain ⟨j, -, rfl⟩ := List.mem_map.1 hx
      exact seqA_lt (by omega))
  simp at this
  omega
theorem trW_all {l p st a : Nat} (hp : IsP p) (h1 : 1 ≤ st) (h2 : st < p) (hl : l ≤ p) : (trW l p st a p).length = l := by
  refine Nat.le_antisymm ?_ ?_
  · have := nodup_sub (m := List.range l) (trW_nodup (l := l) (a := a) hp h1 h2 (Nat.le_refl _)) (fun x hx => List.mem_range.2 (trW_lt hx))
    rwa [List.length_range] at this
  · have := nodup_sub (l := List.range l) (m := trW l p st a p) List.nodup_range (fun x hx => by
      have hx := List.mem_range.1 hx
      obtain ⟨j, hj, e⟩ := seqA_onto (a := a) hp h1 h2 (show x < p by omega)
      exact List.mem_filter.2 ⟨List.mem_map.2 ⟨j, List.mem_range.2 hj, e⟩, decide_eq_true hx⟩)
    rwa [List.length_range] at this

/-- The first d places of a trip. -/
def IsTr (l p st a d : Nat) (w : List Nat) : Prop := w.length = d ∧ ∃ j, j ≤ p ∧ w = trW l p st a j
theorem IsTr.unique {l p st a d : Nat} {v w : List Nat} (h : IsTr l p st a d v) (h' : IsTr l p st a d w) : v = w := by
  obtain ⟨h1, i, -, rfl⟩ := h
  obtain ⟨h2, j, -, rfl⟩ := h'
  rcases Nat.le_total i j with h | h
  · exact (trW_le h).eq_of_length (by omega)
  · exact ((trW_le h).eq_of_length (by omega)).symm
theorem IsTr.nodup {l p st a d : Nat} {w : List Nat} (h : IsTr l p st a d w) (hp : IsP p) (h1 : 1 ≤ st) (h2 : st < p) : w.Nodup := by
  obtain ⟨-, j, hj, rfl⟩ := h
  exact trW_nodup hp h1 h2 hj
theorem IsTr.lt {l p st a d x : Nat} {w : List Nat} (h : IsTr l p st a d w) (hx : x ∈ w) : x < l := by
  obtain ⟨-, j, hj, rfl⟩ := h
  exact trW_lt hx
/-- Fewer than l places are there: a further one is to come, within the first p steps. -/
theorem trW_more {l p st a j : Nat} (hp : IsP p) (h1 : 1 ≤ st) (h2 : st < p) (hl : l ≤ p) (hlt : (trW l p st a j).length < l) : ∃ i, j ≤ i ∧ i < p ∧ seqA p st a i < l ∧ ∀ m, j ≤ m → m < i → ¬ seqA p st a m < l := by
  have key : ∀ d, (∀ m, j ≤ m → m < j + d → ¬ seqA p st a m < l) → trW l p st a (j + d) = trW l p st a j := by
    intro d
    induction d with
    | zero => intro _; rfl
    | succ d ih =>
      intro hn
      rw [← Nat.add_assoc, trW_out (hn (j + d) (by omega) (by omega)), ih (fun m h1 h2 => hn m h1 (by omega))]
  have hjp : j < p := by
    refine Classical.byContradiction fun hge => ?_
    have e := (trW_le (l := l) (p := p) (st := st) (a := a) (show p ≤ j by omega)).length_le
    rw [trW_all hp h1 h2 hl] at e
    omega
  have hex : ∃ i, j ≤ i ∧ i < p ∧ seqA p st a i < l := by
    refine Classical.byContradiction fun hno => ?_
    have e := key (p - j) (fun m h1 h2 h3 => hno ⟨m, h1, by omega, h3⟩)
    rw [show j + (p - j) = p by omega] at e
    have := trW_all (a := a) hp h1 h2 hl
    rw [e] at this
    omega
  obtain ⟨i, hi1, hi2, hi3⟩ := hex
  induction i using Nat.strongRecOn with
  | _ i ih =>
    by_cases h : ∀ m, j ≤ m → m < i → ¬ seqA p st a m < l
    · exact ⟨i, hi1, hi2, hi3, h⟩
    · obtain ⟨m, hm⟩ := Classical.not_forall.1 h
      obtain ⟨hm1, hm⟩ := Classical.not_imp.1 hm
      obtain ⟨hm2, hm3⟩ := Classical.not_imp.1 hm
      exact ih m hm2 hm1 (by omega) (Classical.byContradiction hm3)
end Go.Proofs.YtedadhoaegjhfaaDoor
