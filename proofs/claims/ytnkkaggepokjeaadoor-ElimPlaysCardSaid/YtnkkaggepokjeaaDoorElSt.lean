/- Equations kept by their least columns, no program: what a reduced equation is beside them. -/
import Derived.Test.YtnkkaggepokjeaaDoorElBits
namespace Go.Proofs.YtnkkaggepokjeaaDoor

abbrev Eqn := List Nat × List Nat
abbrev noEq : Eqn := ([], [])
/-- An equation of a system of n unknown ones of that size. -/
def EqOk (n size : Nat) (q : Eqn) : Prop := q.1.length = kOf n ∧ Word q.1 ∧ (∀ c, n ≤ c → bitW q.1 c = false) ∧ q.2.length = size ∧ Octets q.2

/-- The kept equations' vectors, one at each place. -/
def uF (f : Nat → Option Eqn) (n : Nat) : Nat → Vec := fun c => match f c with | none => vzero | some q => longV q.1 q.2 n
theorem uF_none {f : Nat → Option Eqn} {n c : Nat} (h : f c = none) : uF f n c = vzero := by unfold uF; rw [h]
theorem uF_some {f : Nat → Option Eqn} {n c : Nat} {q : Eqn} (h : f c = some q) : uF f n c = longV q.1 q.2 n := by unfold uF; rw [h]

/-- How many places are taken. -/
def cntF (f : Nat → Option Eqn) (n : Nat) : Nat := ((List.range n).filter fun c => (f c).isSome).length
theorem cntF_le (f : Nat → Option Eqn) (n : Nat) : cntF f n ≤ n := by unfold cntF; exact Nat.le_trans (List.length_filter_le _ _) (by simp)
theorem cntF_none (n : Nat) : cntF (fun _ => none) n = 0 := by unfold cntF; simp
theorem cntF_succ (f : Nat → Option Eqn) (n : Nat) : cntF f (n + 1) = cntF f n + (if (f n).isSome then 1 else 0) := by
  unfold cntF
  rw [List.range_succ, List.filter_append, List.length_append]
  congr 1
  simp only [List.filter_cons, List.filter_nil]
  split <;> rfl
theorem cntF_full {f : Nat → Option Eqn} : ∀ {n}, cntF f n = n → ∀ c, c < n → (f c).isSome = true
  | 0, _, c, hc => by omega
  | n + 1, h, c, hc => by
    rw [cntF_succ] at h
    have := cntF_le f n
    cases hs : (f n).isSome with
    | false => rw [hs] at h; simp at h; omega
    | true =>
      rw [hs] at h
      simp at h
      by_cases e : c = n
      · rw [e]; exact hs
      · exact cntF_full h c (by omega)
theorem cntF_congr {f g : Nat → Option Eqn} : ∀ {n}, (∀ c, c < n → (f c).isSome = (g c).isSome) → cntF f n = cntF g n
  | 0, _ => rfl
  | n + 1, h => by rw [cntF_succ, cntF_succ, h n (by omega), cntF_congr fun c hc => h c (by omega)]
def putF (f : Nat → Option Eqn) (c : Nat) (q : Eqn) : Nat → Option Eqn := fun d => if d = c then some q else f d
theorem cntF_put {f : Nat → Option Eqn} {c : Nat} {q : Eqn} (hz : f c = none) : ∀ {n}, c < n → cntF (putF f c q) n = cntF f n + 1
  | 0, h => by omega
  | n + 1, h => by
    rw [cntF_succ, cntF_succ]
    by_cases e : n = c
    · subst e
      rw [cntF_congr (g := f) (fun d hd => by unfold putF; rw [if_neg (by omega)]), hz, show putF f n q n = some q from if_pos rfl]
      rfl
    · rw [cntF_put hz (by omega), show putF f c q n = f n from if_neg e]
      omega
theorem uF_put {f : Nat → Option Eqn} {n c : Nat} {q : Eqn} : uF (putF f c q) n = upd (uF f n) c (longV q.1 q.2 n) := by
  funext d
  unfold uF putF upd
  by_cases e : d = c
  · rw [if_pos e, if_pos e]
  · rw [if_neg e, if_neg e]

theorem stair_cons {U : Nat → Vec} {n : Nat} (h : Stair U n) : Cons n (stL U n) := fun v hv hz => by
  rcases ech_lead (stNZ_ech h) v ((stNZ_span U n v).2 hv) with e | ⟨r, hr, c, h1, h2⟩
  · exact e
  · obtain ⟨d, hd, hne, rfl⟩ := mem_stNZ.1 hr
    have h3 := (h d hd).resolve_left hne
    have h4 : c = d := h1.unique h3
    subst h4
    have h5 := hz c hd
    rw [h2.1] at h5; cases h5

theorem kind_fresh {U : Nat → Vec} {n c : Nat} {l x : Vec} (h : Stair U n) (hx : Sp (stL U n) (vadd x l)) (hc : c < n) (hz : U c = vzero) (hl : Lead x c) : ¬ Sp ((stL U n).map (proj n)) (proj n l) := fun hs => by
  obtain ⟨v, hv, ev⟩ := Sp_lift hs
  have h1 : Sp (stL U n) (vadd (vadd x l) v) := hx.add hv
  refine stair_new h hz (x := vadd (vadd x l) v) ⟨?_, fun d hd => ?_⟩ h1
  · have := proj_eq ev hc
    simp only [vadd, this, hl.1]
    cases l c <;> rfl
  · have := proj_eq ev (Nat.lt_trans hd hc)
    simp only [vadd, this, hl.2 d hd]
    cases l d <;> rfl
theorem kindV_fresh {U : Nat → Vec} {n c : Nat} {l x : Vec} (h : Stair U n) (hx : Sp (stL U n) (vadd x l)) (hc : c < n) (hz : U c = vzero) (hl : Lead x c) : kindV n (stL U n) l = 1 := if_neg (kind_fresh h hx hc hz hl)
theorem kindV_known {K : List Vec} {n : Nat} {l : Vec} (h : Sp K l) : kindV n K l = 2 := by unfold kindV; rw [if_pos (Sp_proj n h), if_pos h]
theorem proj_zero_of {n : Nat} {x : Vec} (h : ∀ c, c < n → x c = false) : proj n x = vzero := by
  funext c; unfold proj; split
  · exact h c ‹_›
  · rfl
theorem kindV_clash {U : Nat → Vec} {n : Nat} {l x : Vec} (h : Stair U n) (hx : Sp (stL U n) (vadd x l)) (hz : ∀ c, c < n → x c = false) (hne : x ≠ vzero) : kindV n (stL U n) l = 3 := by
  have h1 : Sp ((stL U n).map (proj n)) (proj n l) := by
    have := Sp_proj n hx
    rw [proj_add, proj_zero_of hz, vadd_comm, vadd_zero] at this
    exact this
  have h2 : ¬ Sp (stL U n) l := fun hs => hne (stair_cons h x (hx.of_add hs) hz)
  unfold kindV
  rw [if_pos h1, if_neg h2]
/-- Behind a fresh equation, reduced. -/
theorem stair_snoc {U : Nat → Vec} {n c : Nat} {l x : Vec} (hx : Sp (stL U n) (vadd x l)) (hc : c < n) (hz : U c = vzero) : SpEq (stL (upd U c x) n) (stL U n ++ [l]) :=
  (span_upd hc hz).trans (.of
    (fun s hs => by
      rcases List.mem_append.1 hs with hs | hs
      · exact .mem (List.mem_append.2 (.inl hs))
      · rw [List.mem_singleton.1 hs]
        have h1 : Sp (stL U n ++ [l]) (vadd x l) := hx.sub fun r hr => List.mem_append.2 (.inl hr)
        exact h1.of_add (.mem (List.mem_append.2 (.inr (List.mem_singleton.2 rfl)))))
    (fun s hs => by
      rcases List.mem_append.1 hs with hs | hs
      · exact .mem (List.mem_append.2 (.inl hs))
      · rw [List.mem_singleton.1 hs]
        have h1 : Sp (stL U n ++ [x]) (vadd x l) := hx.sub fun r hr => List.mem_append.2 (.inl hr)
        rw [vadd_comm] at h1
        exact h1.of_add (.mem (List.mem_append.2 (.inr (List.mem_singleton.2 rfl))))))
theorem longV_zero {r s : List Nat} {n : Nat} (hr : bitW r = vzero) (hs : ∀ j, s.getD j 0 = 0) : longV r s n = vzero := by
  funext c
  by_cases h1 : c < n
  · rw [longV_row h1, hr]
  · by_cases h2 : c < n + 8 * s.length
    · obtain ⟨i, b, hi, hb, rfl⟩ : ∃ i b, i < s.length ∧ b < 8 ∧ c = n + 8 * i + b := ⟨(c - n) / 8, (c - n) % 8, by omega, by omega, by omega⟩
      rw [longV_sym hi hb, hs i, Nat.zero_testBit]; rfl
    · exact longV_out (by omega)
theorem longV_ne {r s : List Nat} {n j : Nat} (ho : Octets s) (hs : s.getD j 0 ≠ 0) : longV r s n ≠ vzero := fun e => by
  have hj : j < s.length := by
    by_cases h : j < s.length
    · exact h
    · exact absurd (by simp [List.getD_eq_getElem?_getD, Nat.not_lt.1 h]) hs
  refine hs (Nat.eq_of_testBit_eq fun b => ?_)
  rw [Nat.zero_testBit]
  by_cases hb : b < 8
  · rw [← longV_sym (row := r) (n := n) hj hb, e]; rfl
  · have := ho.getD j
    exact Nat.testBit_lt_two_pow (Nat.lt_of_lt_of_le this (Nat.pow_le_pow_right (n := 2) (by decide) (show 8 ≤ b by omega)))
theorem longV_lead {r s : List Nat} {n c : Nat} (hc : c < n) (h : Lead (bitW r) c) : Lead (longV r s n) c := ⟨by rw [longV_row hc]; exact h.1, fun d hd => by rw [longV_row (by omega)]; exact h.2 d hd⟩
end Go.Proofs.YtnkkaggepokjeaaDoor
