/- Equations as vectors, a row's columns ahead and its symbol's bits behind, no program: what is fresh, known or clashes; what is known of one column; what symbols make true. -/
import Derived.Test.YtnkkaggepokjeaaDoorLinG
namespace Go.Proofs.YtnkkaggepokjeaaDoor

def proj (n : Nat) (v : Vec) : Vec := fun c => if c < n then v c else false
def unitV (c : Nat) : Vec := fun d => decide (d = c)

theorem proj_add (n : Nat) (u v : Vec) : proj n (vadd u v) = vadd (proj n u) (proj n v) := by
  funext c; simp only [proj, vadd]; by_cases h : c < n
  · rw [if_pos h, if_pos h, if_pos h]
  · rw [if_neg h, if_neg h, if_neg h]; rfl
theorem proj_zero (n : Nat) : proj n vzero = vzero := by funext c; unfold proj vzero; split <;> rfl
theorem proj_low {n c : Nat} {v : Vec} (h : c < n) : proj n v c = v c := if_pos h
theorem proj_proj (n : Nat) (v : Vec) : proj n (proj n v) = proj n v := by funext c; unfold proj; split <;> rfl
theorem proj_same {n : Nat} {v : Vec} (h : ∀ c, n ≤ c → v c = false) : proj n v = v := by
  funext c; unfold proj; split
  · rfl
  · exact (h c (by omega)).symm
theorem proj_eq {n : Nat} {u v : Vec} (h : proj n u = proj n v) {c : Nat} (hc : c < n) : u c = v c := by
  have := congrFun h c
  rwa [proj_low hc, proj_low hc] at this
theorem vadd_eq {u v : Vec} {c : Nat} (h : u c = v c) : vadd u v c = false := by unfold vadd; rw [h]; cases v c <;> rfl

theorem Sp_proj {K : List Vec} {v : Vec} (n : Nat) (h : Sp K v) : Sp (K.map (proj n)) (proj n v) :=
  h (fun x => Sp (K.map (proj n)) (proj n x)) ⟨by rw [proj_zero]; exact Sp.zero _, fun x y hx hy => by rw [proj_add]; exact hx.add hy⟩ fun r hr => .mem (List.mem_map.2 ⟨r, hr, rfl⟩)
theorem Sp_lift {K : List Vec} {x : Vec} {n : Nat} (h : Sp (K.map (proj n)) x) : ∃ v, Sp K v ∧ proj n v = x :=
  h (fun x => ∃ v, Sp K v ∧ proj n v = x) ⟨⟨vzero, Sp.zero _, proj_zero n⟩, fun x y ⟨u, hu, eu⟩ ⟨v, hv, ev⟩ => ⟨vadd u v, hu.add hv, by rw [proj_add, eu, ev]⟩⟩ fun r hr => by
    obtain ⟨s, hs, rfl⟩ := List.mem_map.1 hr
    exact ⟨s, .mem hs, rfl⟩
theorem Sp_snoc {l : List Vec} {r x : Vec} (h : Sp (l ++ [r]) x) : Sp l x ∨ Sp l (vadd x r) :=
  Sp_cons (h.sub fun s hs => by
    rcases List.mem_append.1 hs with h | h
    · exact List.mem_cons_of_mem _ h
    · rw [List.mem_singleton.1 h]; exact List.mem_cons_self ..)

/-- No equation that is kept says something of nothing. -/
def Cons (n : Nat) (K : List Vec) : Prop := ∀ v, Sp K v → (∀ c, c < n → v c = false) → v = vzero
theorem Cons.nil (n : Nat) : Cons n [] := fun _ h _ => Sp_nil h
theorem Cons.unique {n : Nat} {K : List Vec} (h : Cons n K) {u v : Vec} (hu : Sp K u) (hv : Sp K v) (e : proj n u = proj n v) : u = v :=
  vadd_eq_zero (h _ (hu.add hv) fun _ hc => vadd_eq (proj_eq e hc))
theorem Cons.congr {n : Nat} {K M : List Vec} (h : Cons n K) (e : SpEq K M) : Cons n M := fun v hv hz => h v ((e v).2 hv) hz
theorem Cons.snoc {n : Nat} {K : List Vec} {l : Vec} (h : Cons n K) (hl : ¬ Sp (K.map (proj n)) (proj n l)) : Cons n (K ++ [l]) := fun v hv hz => by
  rcases Sp_snoc hv with h1 | h1
  · exact h v h1 hz
  · refine absurd ?_ hl
    have h2 := Sp_proj n h1
    rwa [proj_add, show proj n v = vzero from by funext c; unfold proj; split; exact hz c ‹_›; rfl, vadd_comm, vadd_zero] at h2

open Classical in
/-- What an equation is beside those that are kept: 1 fresh, 2 known, 3 a clash. -/
noncomputable def kindV (n : Nat) (K : List Vec) (l : Vec) : Nat := if Sp (K.map (proj n)) (proj n l) then (if Sp K l then 2 else 3) else 1
theorem kindV_congr {n : Nat} {K M : List Vec} (e : SpEq K M) (l : Vec) : kindV n K l = kindV n M l := by
  have h1 : Sp (K.map (proj n)) (proj n l) ↔ Sp (M.map (proj n)) (proj n l) := by
    constructor <;> intro h
    · obtain ⟨v, hv, ev⟩ := Sp_lift h; rw [← ev]; exact Sp_proj n ((e v).1 hv)
    · obtain ⟨v, hv, ev⟩ := Sp_lift h; rw [← ev]; exact Sp_proj n ((e v).2 hv)
  unfold kindV
  by_cases a : Sp (M.map (proj n)) (proj n l)
  · have a' := h1.2 a
    by_cases b : Sp M l
    · have b' := (e l).2 b
      rw [if_pos a', if_pos b', if_pos a, if_pos b]
    · have b' : ¬ Sp K l := fun h => b ((e l).1 h)
      rw [if_pos a', if_neg b', if_pos a, if_neg b]
  · have a' : ¬ Sp (K.map (proj n)) (proj n l) := fun h => a (h1.1 h)
    rw [if_neg a', if_neg a]
theorem rk_known {K : List Vec} {l : Vec} : rk (K ++ [l]) = rk K ↔ Sp K l := by
  constructor
  · intro h
    apply Classical.byContradiction
    intro hn
    have := rk_out hn
    omega
  · exact rk_in

/-- One column's value: the vector of the span whose columns are that one alone. -/
def ValV (n : Nat) (K : List Vec) (c : Nat) (v : Vec) : Prop := Sp K v ∧ proj n v = unitV c
theorem ValV.unique {n c : Nat} {K : List Vec} (h : Cons n K) {u v : Vec} (hu : ValV n K c u) (hv : ValV n K c v) : u = v := h.unique hu.1 hv.1 (hu.2.trans hv.2.symm)
theorem ValV.congr {n c : Nat} {K M : List Vec} {v : Vec} (h : ValV n K c v) (e : SpEq K M) : ValV n M c v := ⟨(e v).1 h.1, h.2⟩
theorem ValV.exists {n c : Nat} {K : List Vec} (h : Sp (K.map (proj n)) (unitV c)) : ∃ v, ValV n K c v := Sp_lift h
theorem ValV.known {n c : Nat} {K : List Vec} {v : Vec} (h : ValV n K c v) : Sp (K.map (proj n)) (unitV c) := by rw [← h.2]; exact Sp_proj n h.1

/-! ### the plain form tells it -/
def comb (R : List Vec) (p : Nat → Nat) (x : Vec) : Nat → Vec
  | 0 => vzero
  | j + 1 => if x (p j) = true then vadd (comb R p x j) (R.getD j vzero) else comb R p x j
theorem comb_zero (R : List Vec) (p : Nat → Nat) : ∀ j, comb R p vzero j = vzero
  | 0 => rfl
  | j + 1 => by rw [comb, if_neg (by simp [vzero]), comb_zero R p j]
theorem comb_add (R : List Vec) (p : Nat → Nat) (x y : Vec) : ∀ j, comb R p (vadd x y) j = vadd (comb R p x j) (comb R p y j)
  | 0 => (vadd_zero _).symm
  | j + 1 => by
    have ih := comb_add R p x y j
    cases hx : x (p j) <;> cases hy : y (p j)
    · rw [comb, comb, comb, if_neg (by simp [vadd, hx, hy]), if_neg (by simp [hx]), if_neg (by simp [hy]), ih]
    · rw [comb, comb, comb, if_pos (by simp [vadd, hx, hy]), if_neg (by simp [hx]), if_pos hy, ih, vadd_assoc]
    · rw [comb, comb, comb, if_pos (by simp [vadd, hx, hy]), if_pos hx, if_neg (by simp [hy]), ih, vadd_right]
    · rw [comb, comb, comb, if_neg (by simp [vadd, hx, hy]), if_pos hx, if_pos hy, ih, vadd_four]
theorem comb_none {R : List Vec} {p : Nat → Nat} {x : Vec} : ∀ {m}, (∀ j, j < m → x (p j) = false) → comb R p x m = vzero
  | 0, _ => rfl
  | m + 1, h => by
    rw [comb, if_neg (by rw [h m (by omega)]; decide)]
    exact comb_none fun j hj => h j (by omega)
theorem comb_one {R : List Vec} {p : Nat → Nat} {x : Vec} {i : Nat} : ∀ {m}, i < m → x (p i) = true → (∀ j, j < m → j ≠ i → x (p j) = false) → comb R p x m = R.getD i vzero
  | 0, h, _, _ => by omega
  | m + 1, h, h1, h2 => by
    by_cases e : m = i
    · subst e
      rw [comb, if_pos h1, comb_none fun j hj => h2 j (by omega) (by omega), vadd_comm, vadd_zero]
    · rw [comb, if_neg (by rw [h2 m (by omega) e]; decide)]
      exact comb_one (by omega) h1 fun j hj hne => h2 j (by omega) hne

theorem GI.reduced {R : List Vec} {done n : Nat} {p : Nat → Nat} (h : GI R done n p) {x : Vec} (hx : Sp R x) : ∀ c, c < n → vadd x (comb R p x done) c = false := by
  have hcl : Clo fun x => ∀ c, c < n → vadd x (comb R p x done) c = false := ⟨fun c _ => by rw [comb_zero]; rfl, fun x y h1 h2 c hc => by
    rw [comb_add]
    have e1 := h1 c hc
    have e2 := h2 c hc
    unfold vadd at e1 e2 ⊢
    cases hxc : x c <;> cases hyc : y c <;> cases hac : comb R p x done c <;> cases hbc : comb R p y done c <;> simp_all⟩
  refine hx _ hcl fun r hr => ?_
  obtain ⟨k, hk, rfl⟩ := mem_getD.1 hr
  by_cases hkd : k < done
  · have h1 : R.getD k vzero (p k) = true := (h.lead k hkd).1.1
    rw [comb_one hkd h1 fun j hj hne => h.one j k hj hk (fun e => hne e.symm)]
    intro c _
    exact vadd_eq rfl
  · have hz : ∀ c, c < n → R.getD k vzero c = false := fun c hc => h.low k (by omega) hk c hc
    rw [comb_none fun j hj => hz _ (h.lead j hj).2]
    intro c hc
    rw [vadd_zero]
    exact hz c hc

/-- The row that tells a column's value, and none ahead of it has that column. -/
theorem GI.tells {R : List Vec} {done n : Nat} {p : Nat → Nat} (h : GI R done n p) (hc : Cons n R) {c : Nat} (hcn : c < n) {v : Vec} (hv : ValV n R c v) :
    ∃ i, i < done ∧ R.getD i vzero = v ∧ R.getD i vzero c = true ∧ ∀ k, k < R.length → k ≠ i → R.getD k vzero c = false := by
  have hred := h.reduced hv.1
  have hbit : ∀ j, j < done → v (p j) = decide (p j = c) := fun j hj => by
    have := congrFun hv.2 (p j)
    rwa [proj_low (h.lead j hj).2] at this
  by_cases hex : ∃ i, i < done ∧ p i = c
  · obtain ⟨i, hi, rfl⟩ := hex
    have h1 : v (p i) = true := by rw [hbit i hi]; exact decide_eq_true rfl
    have h2 : ∀ j, j < done → j ≠ i → v (p j) = false := fun j hj hne => by
      rw [hbit j hj]
      apply decide_eq_false
      intro e
      rcases Nat.lt_or_gt_of_ne hne with hlt | hgt
      · have := h.rise j i hlt hi; omega
      · have := h.rise i j hgt hj; omega
    rw [comb_one hi h1 h2] at hred
    have hil : i < R.length := by have := h.le; omega
    refine ⟨i, hi, (vadd_eq_zero (hc _ (hv.1.add (.mem (getD_mem hil))) hred)).symm, (h.lead i hi).1.1, fun k hk hne => h.one i k hi hk hne⟩
  · rw [comb_none fun j hj => by rw [hbit j hj]; exact decide_eq_false fun e => hex ⟨j, hj, e⟩] at hred
    have h1 := hred c hcn
    have h2 := congrFun hv.2 c
    rw [proj_low hcn] at h2
    rw [vadd_zero, h2] at h1
    simp [unitV] at h1

/-! ### what symbols make true -/
structure TrueBy (n : Nat) (T : Vec → Vec) : Prop where
  zero : T vzero = vzero
  add : ∀ x y, T (vadd x y) = vadd (T x) (T y)
theorem TrueBy.span {n : Nat} {T : Vec → Vec} (h : TrueBy n T) {K : List Vec} (hK : ∀ l ∈ K, l = T (proj n l)) {v : Vec} (hv : Sp K v) : v = T (proj n v) :=
  hv (fun v => v = T (proj n v)) ⟨by show vzero = _; rw [proj_zero, h.zero], fun x y hx hy => by show vadd x y = _; rw [proj_add, h.add, ← hx, ← hy]⟩ hK
theorem TrueBy.cons {n : Nat} {T : Vec → Vec} (h : TrueBy n T) {K : List Vec} (hK : ∀ l ∈ K, l = T (proj n l)) : Cons n K := fun v hv hz => by
  rw [h.span hK hv, show proj n v = vzero from by funext c; unfold proj; split; exact hz c ‹_›; rfl, h.zero]
open Classical in
/-- It is fresh or known. -/
theorem TrueBy.kind {n : Nat} {T : Vec → Vec} (h : TrueBy n T) {K : List Vec} (hK : ∀ l ∈ K, l = T (proj n l)) {l : Vec} (hl : l = T (proj n l)) : kindV n K l = if Sp (K.map (proj n)) (proj n l) then 2 else 1 := by
  unfold kindV
  by_cases hs : Sp (K.map (proj n)) (proj n l)
  · obtain ⟨v, hv, ev⟩ := Sp_lift hs
    have : v = l := by rw [h.span hK hv, ev, ← hl]
    subst this
    rw [if_pos hs, if_pos hv, if_pos hs]
  · rw [if_neg hs, if_neg hs]
end Go.Proofs.YtnkkaggepokjeaaDoor
