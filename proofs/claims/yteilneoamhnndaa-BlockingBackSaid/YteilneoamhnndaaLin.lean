/- Rows over two elements, no program: sums, what rows span, least columns; families of unlike least columns and ranks; the plain form is one. -/
import Derived.Test.YteilneoamhnndaaWordsMath
namespace Go.Proofs.Yteilneoamhnndaa

abbrev Vec := Nat → Bool
def vadd (x y : Vec) : Vec := fun c => x c ^^ y c
def vzero : Vec := fun _ => false

theorem vadd_comm (x y : Vec) : vadd x y = vadd y x := by funext c; simp only [vadd]; cases x c <;> cases y c <;> rfl
theorem vadd_assoc (x y z : Vec) : vadd (vadd x y) z = vadd x (vadd y z) := by funext c; simp only [vadd]; cases x c <;> cases y c <;> cases z c <;> rfl
theorem vadd_right (x y z : Vec) : vadd (vadd x y) z = vadd (vadd x z) y := by funext c; simp only [vadd]; cases x c <;> cases y c <;> cases z c <;> rfl
theorem vadd_four (x y r : Vec) : vadd (vadd x r) (vadd y r) = vadd x y := by funext c; simp only [vadd]; cases x c <;> cases y c <;> cases r c <;> rfl
theorem vadd_zero (x : Vec) : vadd x vzero = x := by funext c; simp only [vadd, vzero]; cases x c <;> rfl
theorem vadd_self (x : Vec) : vadd x x = vzero := by funext c; simp only [vadd, vzero]; cases x c <;> rfl
theorem vadd_vadd (x y : Vec) : vadd (vadd x y) y = x := by funext c; simp only [vadd]; cases x c <;> cases y c <;> rfl
theorem vadd_eq_zero {x y : Vec} (h : vadd x y = vzero) : x = y := by
  have := congrArg (fun z => vadd z y) h
  simp only [vadd_vadd] at this
  rw [this, vadd_comm, vadd_zero]

structure Clo (S : Vec → Prop) : Prop where
  zero : S vzero
  add : ∀ x y, S x → S y → S (vadd x y)

/-- What a list of rows spans. -/
def Sp (l : List Vec) (x : Vec) : Prop := ∀ S : Vec → Prop, Clo S → (∀ r ∈ l, S r) → S x
theorem Sp.clo (l : List Vec) : Clo (Sp l) := ⟨fun _ h _ => h.zero, fun _ _ hx hy S h hl => h.add _ _ (hx S h hl) (hy S h hl)⟩
theorem Sp.zero (l : List Vec) : Sp l vzero := (Sp.clo l).zero
theorem Sp.add {l : List Vec} {x y : Vec} (hx : Sp l x) (hy : Sp l y) : Sp l (vadd x y) := (Sp.clo l).add _ _ hx hy
theorem Sp.mem {l : List Vec} {r : Vec} (h : r ∈ l) : Sp l r := fun _ _ hl => hl r h
theorem Sp.le {l m : List Vec} {x : Vec} (h : ∀ r ∈ l, Sp m r) (hx : Sp l x) : Sp m x := hx _ (Sp.clo m) h
theorem Sp.sub {l m : List Vec} {x : Vec} (h : ∀ r ∈ l, r ∈ m) (hx : Sp l x) : Sp m x := hx.le fun r hr => .mem (h r hr)
theorem Sp.of_add {l : List Vec} {x y : Vec} (h : Sp l (vadd x y)) (hy : Sp l y) : Sp l x := by
  have := h.add hy
  rwa [vadd_vadd] at this
theorem Sp.low {l : List Vec} {x : Vec} {c : Nat} (h : ∀ r ∈ l, r c = false) (hx : Sp l x) : x c = false :=
  hx (fun y => y c = false) ⟨rfl, fun x y h1 h2 => by simp only [vadd, h1, h2]; rfl⟩ h

def SpEq (l m : List Vec) : Prop := ∀ x, Sp l x ↔ Sp m x
theorem SpEq.of {l m : List Vec} (h1 : ∀ r ∈ l, Sp m r) (h2 : ∀ r ∈ m, Sp l r) : SpEq l m := fun _ => ⟨fun h => h.le h1, fun h => h.le h2⟩
theorem SpEq.refl (l : List Vec) : SpEq l l := fun _ => Iff.rfl
theorem SpEq.symm {l m : List Vec} (h : SpEq l m) : SpEq m l := fun x => (h x).symm
theorem SpEq.trans {l m k : List Vec} (h : SpEq l m) (h2 : SpEq m k) : SpEq l k := fun x => (h x).trans (h2 x)
theorem SpEq.of_mem {l m : List Vec} (h : ∀ r, r ∈ l ↔ r ∈ m) : SpEq l m := .of (fun r hr => .mem ((h r).1 hr)) (fun r hr => .mem ((h r).2 hr))
theorem SpEq.snoc {l m : List Vec} (h : SpEq l m) (r : Vec) : SpEq (l ++ [r]) (m ++ [r]) := .of
  (fun s hs => by
    rcases List.mem_append.1 hs with hs | hs
    · exact ((h s).1 (.mem hs)).sub fun t ht => List.mem_append.2 (.inl ht)
    · exact .mem (List.mem_append.2 (.inr hs)))
  (fun s hs => by
    rcases List.mem_append.1 hs with hs | hs
    · exact ((h s).2 (.mem hs)).sub fun t ht => List.mem_append.2 (.inl ht)
    · exact .mem (List.mem_append.2 (.inr hs)))
theorem SpEq.snoc_in {l : List Vec} {r : Vec} (h : Sp l r) : SpEq (l ++ [r]) l := .of
  (fun s hs => by
    rcases List.mem_append.1 hs with hs | hs
    · exact .mem hs
    · simp at hs; subst hs; exact h)
  (fun s hs => .mem (List.mem_append.2 (.inl hs)))

theorem Sp_nil {x : Vec} (h : Sp [] x) : x = vzero := h (· = vzero) ⟨rfl, by rintro _ _ rfl rfl; exact vadd_zero _⟩ (by simp)
theorem Sp_cons {r : Vec} {l : List Vec} {x : Vec} (h : Sp (r :: l) x) : Sp l x ∨ Sp l (vadd x r) := by
  refine h (fun x => Sp l x ∨ Sp l (vadd x r)) ⟨.inl (Sp.zero l), ?_⟩ ?_
  · rintro x y (hx | hx) (hy | hy)
    · exact .inl (hx.add hy)
    · right; rw [vadd_assoc]; exact hx.add hy
    · right; rw [vadd_right]; exact hx.add hy
    · left; have := hx.add hy; rwa [vadd_four] at this
  · intro s hs
    rcases List.mem_cons.1 hs with rfl | hs
    · right; rw [vadd_self]; exact Sp.zero l
    · exact .inl (.mem hs)

/-! ### least columns -/
def Lead (x : Vec) (c : Nat) : Prop := x c = true ∧ ∀ d, d < c → x d = false
theorem Lead.unique {x : Vec} {c d : Nat} (h : Lead x c) (k : Lead x d) : c = d := by
  rcases Nat.lt_trichotomy c d with h1 | h1 | h1
  · have := k.2 _ h1; rw [h.1] at this; cases this
  · exact h1
  · have := h.2 _ h1; rw [k.1] at this; cases this
theorem Lead.ne {x : Vec} {c : Nat} (h : Lead x c) : x ≠ vzero := by
  rintro rfl; cases h.1
theorem Lead.add_lt {x y : Vec} {c d : Nat} (hx : Lead x c) (hy : Lead y d) (h : c < d) : Lead (vadd x y) c :=
  ⟨by simp only [vadd, hx.1, hy.2 _ h]; rfl, fun e he => by simp only [vadd, hx.2 _ he, hy.2 _ (Nat.lt_trans he h)]; rfl⟩
theorem lead_or_zero (x : Vec) : x = vzero ∨ ∃ c, Lead x c := by
  by_cases h : ∃ c, Lead x c
  · exact .inr h
  · left
    have : ∀ n, ∀ c, c < n → x c = false := by
      intro n
      induction n with
      | zero => intro c hc; omega
      | succ n ih =>
        intro c hc
        by_cases e : c = n
        · subst e
          cases hx : x c with
          | false => rfl
          | true => exact absurd ⟨c, hx, ih⟩ h
        · exact ih c (by omega)
    funext c
    exact this (c + 1) c (by omega)

def Ech (l : List Vec) : Prop := (∀ r ∈ l, ∃ c, Lead r c) ∧ l.Pairwise (fun r s => ∀ c, Lead r c → ¬ Lead s c)

theorem ech_lead {l : List Vec} (h : Ech l) : ∀ x, Sp l x → x = vzero ∨ ∃ r ∈ l, ∃ c, Lead r c ∧ Lead x c := by
  induction l with
  | nil => intro x hx; exact .inl (Sp_nil hx)
  | cons r l ih =>
    intro x hx
    obtain ⟨h1, h2⟩ := h
    have ih' := ih ⟨fun s hs => h1 s (List.mem_cons_of_mem _ hs), (List.pairwise_cons.1 h2).2⟩
    rcases Sp_cons hx with hx | hx
    · rcases ih' x hx with e | ⟨s, hs, c, hc⟩
      · exact .inl e
      · exact .inr ⟨s, List.mem_cons_of_mem _ hs, c, hc⟩
    · obtain ⟨c, hc⟩ := h1 r (by simp)
      right
      rcases ih' _ hx with e | ⟨s, hs, d, hd, hxd⟩
      · have := vadd_eq_zero e
        subst this
        exact ⟨x, by simp, c, hc, hc⟩
      · have hne : c ≠ d := fun e => (List.pairwise_cons.1 h2).1 s hs c hc (e ▸ hd)
        have ex : x = vadd (vadd x r) r := (vadd_vadd x r).symm
        rcases Nat.lt_or_gt_of_ne hne with hl | hl
        · refine ⟨r, by simp, c, hc, ?_⟩
          rw [ex, vadd_comm]
          exact hc.add_lt hxd hl
        · refine ⟨s, List.mem_cons_of_mem _ hs, d, hd, ?_⟩
          rw [ex]
          exact hxd.add_lt hc hl

theorem inj_len {α β : Type} (R : α → β → Prop) : ∀ (l : List α) (m : List β), (∀ r ∈ l, ∃ s ∈ m, R r s) → l.Pairwise (fun r r' => ∀ s, R r s → ¬ R r' s) → l.length ≤ m.length
  | [], _, _, _ => Nat.zero_le _
  | r :: l, m, h, hp => by
    obtain ⟨s, hs, hr⟩ := h r (by simp)
    obtain ⟨m1, m2, rfl⟩ := List.append_of_mem hs
    have := inj_len R l (m1 ++ m2) (fun r' hr' => by
      obtain ⟨s', hs', hr2⟩ := h r' (List.mem_cons_of_mem _ hr')
      refine ⟨s', ?_, hr2⟩
      have hne : s' ≠ s := fun e => (List.pairwise_cons.1 hp).1 r' hr' s hr (e ▸ hr2)
      simp only [List.mem_append, List.mem_cons] at hs' ⊢
      rcases hs' with h1 | h1 | h1
      · exact .inl h1
      · exact absurd h1 hne
      · exact .inr h1) (List.pairwise_cons.1 hp).2
    simp only [List.length_append, List.length_cons] at this ⊢
    omega

theorem ech_le {l m : List Vec} (hl : Ech l) (hm : Ech m) (h : ∀ r ∈ l, Sp m r) : l.length ≤ m.length := by
  refine inj_len (fun r s => ∃ c, Lead r c ∧ Lead s c) l m ?_ (hl.2.imp ?_)
  · intro r hr
    obtain ⟨c, hc⟩ := hl.1 r hr
    rcases ech_lead hm r (h r hr) with e | ⟨s, hs, d, hd, hrd⟩
    · exact absurd e hc.ne
    · exact ⟨s, hs, d, hrd, hd⟩
  · rintro r r' hrr s ⟨c, h1, h2⟩ ⟨d, h3, h4⟩
    have := h2.unique h4
    subst this
    exact hrr _ h1 h3

theorem ech_length {l m : List Vec} (hl : Ech l) (hm : Ech m) (h : SpEq l m) : l.length = m.length :=
  Nat.le_antisymm (ech_le hl hm fun r hr => (h r).1 (.mem hr)) (ech_le hm hl fun r hr => (h r).2 (.mem hr))

theorem ech_snoc {m : List Vec} {x : Vec} {c : Nat} (hm : Ech m) (hx : Lead x c) (h : ∀ s ∈ m, ¬ Lead s c) : Ech (m ++ [x]) := by
  refine ⟨fun r hr => ?_, List.pairwise_append.2 ⟨hm.2, by simp, fun r hr s hs => ?_⟩⟩
  · rcases List.mem_append.1 hr with hr | hr
    · exact hm.1 r hr
    · simp at hr; subst hr; exact ⟨c, hx⟩
  · simp at hs
    subst hs
    intro d hd hxd
    have := hx.unique hxd
    subst this
    exact h r hr hd

/-- A row that no stair takes further down hangs on nothing. -/
theorem ech_new {m : List Vec} {x : Vec} {c : Nat} (hm : Ech m) (hx : Lead x c) (h : ∀ s ∈ m, ¬ Lead s c) : ¬ Sp m x := by
  intro hs
  rcases ech_lead hm x hs with e | ⟨s, hs, d, hd, hxd⟩
  · exact hx.ne e
  · have := hx.unique hxd
    subst this
    exact h s hs hd

/-! ### ranks -/
theorem reduce (m : List Vec) (r : Vec) : ∀ k, ∃ x, Sp m (vadd x r) ∧ ∀ c, c < k → Lead x c → ∀ s ∈ m, ¬ Lead s c := by
  intro k
  induction k with
  | zero => exact ⟨r, by rw [vadd_self]; exact Sp.zero m, fun c hc => by omega⟩
  | succ k ih =>
    obtain ⟨x, hx, hk⟩ := ih
    by_cases h : Lead x k ∧ ∃ s ∈ m, Lead s k
    · obtain ⟨h1, s, hs, h2⟩ := h
      refine ⟨vadd x s, by rw [vadd_right]; exact hx.add (.mem hs), fun c hc hl => ?_⟩
      have : vadd x s c = false := by
        by_cases e : c = k
        · subst e; simp only [vadd, h1.1, h2.1]; rfl
        · simp only [vadd, h1.2 c (by omega), h2.2 c (by omega)]; rfl
      rw [hl.1] at this
      cases this
    · refine ⟨x, hx, fun c hc hl s hs hsl => ?_⟩
      by_cases e : c = k
      · subst e; exact h ⟨hl, s, hs, hsl⟩
      · exact hk c (by omega) hl s hs hsl

theorem bound_leads : ∀ m : List Vec, ∃ N, ∀ s ∈ m, ∀ c, Lead s c → c < N
  | [] => ⟨0, by simp⟩
  | s :: m => by
    obtain ⟨N, hN⟩ := bound_leads m
    by_cases h : ∃ c, Lead s c
    · obtain ⟨c, hc⟩ := h
      refine ⟨N + c + 1, fun t ht d hd => ?_⟩
      rcases List.mem_cons.1 ht with rfl | ht
      · have := hc.unique hd; omega
      · have := hN t ht d hd; omega
    · refine ⟨N, fun t ht d hd => ?_⟩
      rcases List.mem_cons.1 ht with rfl | ht
      · exact absurd ⟨d, hd⟩ h
      · exact hN t ht d hd

theorem ech_exists : ∀ l : List Vec, ∃ m, Ech m ∧ SpEq m l ∧ m.length ≤ l.length
  | [] => ⟨[], ⟨by simp, by simp⟩, SpEq.refl _, Nat.le_refl _⟩
  | r :: l => by
    obtain ⟨m, hm, he, hl⟩ := ech_exists l
    obtain ⟨N, hN⟩ := bound_leads m
    obtain ⟨x, hx, hk⟩ := reduce m r N
    have hmem : ∀ s ∈ m, Sp (r :: l) s := fun s hs => ((he s).1 (.mem hs)).sub fun t ht => List.mem_cons_of_mem _ ht
    rcases lead_or_zero x with rfl | ⟨c, hc⟩
    · have hr : Sp m r := by rw [vadd_comm, vadd_zero] at hx; exact hx
      refine ⟨m, hm, .of hmem (fun s hs => ?_), by simp; omega⟩
      rcases List.mem_cons.1 hs with rfl | hs
      · exact hr
      · exact (he s).2 (.mem hs)
    · have hn : ∀ s ∈ m, ¬ Lead s c := fun s hs hsc => hk c (hN s hs c hsc) hc s hs hsc
      refine ⟨m ++ [x], ech_snoc hm hc hn, .of (fun s hs => ?_) (fun s hs => ?_), by simp; omega⟩
      · rcases List.mem_append.1 hs with hs | hs
        · exact hmem s hs
        · simp at hs
          subst hs
          exact (hx.le hmem).of_add (.mem (by simp))
      · rcases List.mem_cons.1 hs with rfl | hs
        · have h1 : Sp (m ++ [x]) (vadd x s) := hx.sub fun t ht => List.mem_append.2 (.inl ht)
          rw [vadd_comm] at h1
          exact h1.of_add (.mem (by simp))
        · exact ((he s).2 (.mem hs)).sub fun t ht => List.mem_append.2 (.inl ht)

noncomputable def rk (l : List Vec) : Nat := (Classical.choose (ech_exists l)).length
theorem rk_eq {l m : List Vec} (hm : Ech m) (h : SpEq m l) : m.length = rk l := by
  obtain ⟨h1, h2, _⟩ := Classical.choose_spec (ech_exists l)
  exact ech_length hm h1 (h.trans h2.symm)
theorem rk_congr {l m : List Vec} (h : SpEq l m) : rk l = rk m := by
  obtain ⟨h1, h2, _⟩ := Classical.choose_spec (ech_exists l)
  exact rk_eq h1 (h2.trans h)
theorem rk_le_length (l : List Vec) : rk l ≤ l.length := (Classical.choose_spec (ech_exists l)).2.2
theorem rk_in {l : List Vec} {r : Vec} (h : Sp l r) : rk (l ++ [r]) = rk l := rk_congr (.snoc_in h)
theorem rk_out {l : List Vec} {r : Vec} (h : ¬ Sp l r) : rk (l ++ [r]) = rk l + 1 := by
  obtain ⟨m, hm, he, -⟩ := ech_exists l
  obtain ⟨N, hN⟩ := bound_leads m
  obtain ⟨x, hx, hk⟩ := reduce m r N
  have hz : x ≠ vzero := by
    rintro rfl
    rw [vadd_comm, vadd_zero] at hx
    exact h ((he r).1 hx)
  rcases lead_or_zero x with e | ⟨c, hc⟩
  · exact absurd e hz
  · have hn : ∀ s ∈ m, ¬ Lead s c := fun s hs hsc => hk c (hN s hs c hsc) hc s hs hsc
    have h2 : SpEq (m ++ [x]) (l ++ [r]) := by
      refine SpEq.trans ?_ (he.snoc r)
      refine .of (fun s hs => ?_) (fun s hs => ?_)
      · rcases List.mem_append.1 hs with hs | hs
        · exact .mem (List.mem_append.2 (.inl hs))
        · simp at hs
          subst hs
          have h1 : Sp (m ++ [r]) (vadd s r) := hx.sub fun t ht => List.mem_append.2 (.inl ht)
          exact h1.of_add (.mem (by simp))
      · rcases List.mem_append.1 hs with hs | hs
        · exact .mem (List.mem_append.2 (.inl hs))
        · simp at hs
          subst hs
          have h1 : Sp (m ++ [x]) (vadd x s) := hx.sub fun t ht => List.mem_append.2 (.inl ht)
          rw [vadd_comm] at h1
          exact h1.of_add (.mem (by simp))
    have e1 := rk_eq (ech_snoc hm hc hn) h2
    have e2 := rk_eq hm he
    simp at e1
    omega
theorem rk_le_cols {l : List Vec} {n : Nat} (h : ∀ r ∈ l, ∀ c, n ≤ c → r c = false) : rk l ≤ n := by
  obtain ⟨m, hm, he, -⟩ := ech_exists l
  rw [← rk_eq hm he]
  have := inj_len (fun (r : Vec) (c : Nat) => Lead r c) m (List.range n) (fun r hr => by
    obtain ⟨c, hc⟩ := hm.1 r hr
    refine ⟨c, ?_, hc⟩
    rw [List.mem_range]
    apply Nat.lt_of_not_le
    intro hn
    have := Sp.low (fun s hs => h s hs c hn) ((he r).1 (.mem hr))
    rw [hc.1] at this
    cases this) (hm.2.imp fun h c => h c)
  simpa using this

open Classical in
/-- The places below k of the rows that do not hang on those ahead of them. -/
noncomputable def picksTo (l : List Vec) (k : Nat) : List Nat := (List.range k).filter fun i => decide (¬ Sp (l.take i) (l.getD i vzero))
theorem picksTo_in {l : List Vec} {k : Nat} (h : Sp (l.take k) (l.getD k vzero)) : picksTo l (k + 1) = picksTo l k := by
  unfold picksTo; rw [List.range_succ, List.filter_append]; simp only [List.filter_cons, List.filter_nil, not_true_eq_false, decide_false, h]; simp
theorem picksTo_out {l : List Vec} {k : Nat} (h : ¬ Sp (l.take k) (l.getD k vzero)) : picksTo l (k + 1) = picksTo l k ++ [k] := by
  unfold picksTo; rw [List.range_succ, List.filter_append]; simp only [List.filter_cons, List.filter_nil, not_false_eq_true, decide_true, h]; simp
theorem picksTo_le (l : List Vec) (k : Nat) : (picksTo l k).length ≤ k := by
  unfold picksTo; exact Nat.le_trans (List.length_filter_le _ _) (by simp)
theorem take_snoc {l : List Vec} {k : Nat} (h : k < l.length) : l.take (k + 1) = l.take k ++ [l.getD k vzero] := by
  rw [List.take_succ_eq_append_getElem h]
  simp [List.getD_eq_getElem?_getD, h]
theorem rk_take_in {l : List Vec} {k : Nat} (h : k < l.length) (hs : Sp (l.take k) (l.getD k vzero)) : rk (l.take (k + 1)) = rk (l.take k) := by rw [take_snoc h]; exact rk_in hs
theorem rk_take_out {l : List Vec} {k : Nat} (h : k < l.length) (hs : ¬ Sp (l.take k) (l.getD k vzero)) : rk (l.take (k + 1)) = rk (l.take k) + 1 := by rw [take_snoc h]; exact rk_out hs
theorem picksTo_length (l : List Vec) : ∀ k, k ≤ l.length → (picksTo l k).length = rk (l.take k)
  | 0, _ => by
    have := rk_le_length (l.take 0)
    simp at this
    simp [picksTo, this]
  | k + 1, hk => by
    have ih := picksTo_length l k (by omega)
    by_cases h : Sp (l.take k) (l.getD k vzero)
    · rw [picksTo_in h, rk_take_in (by omega) h, ih]
    · rw [picksTo_out h, rk_take_out (by omega) h, List.length_append, ih]; rfl

/-! ### the plain form -/
def PF (l : List Vec) : Prop := (∀ r ∈ l, ∃ c, Lead r c) ∧ l.Pairwise (fun r s => ∀ c d, Lead r c → Lead s d → c < d ∧ r d = false)
theorem PF.ech {l : List Vec} (h : PF l) : Ech l := by
  refine ⟨h.1, h.2.imp fun h c h1 h2 => ?_⟩
  have := (h c c h1 h2).1
  omega
theorem pairwise_cases {α : Type} {R : α → α → Prop} : ∀ {l : List α}, l.Pairwise R → ∀ r ∈ l, ∀ s ∈ l, r = s ∨ R r s ∨ R s r
  | [], _, _, hr, _, _ => by simp at hr
  | a :: l, h, r, hr, s, hs => by
    obtain ⟨h1, h2⟩ := List.pairwise_cons.1 h
    rcases List.mem_cons.1 hr with rfl | hr
    · rcases List.mem_cons.1 hs with rfl | hs
      · exact .inl rfl
      · exact .inr (.inl (h1 s hs))
    · rcases List.mem_cons.1 hs with e | hs
      · exact .inr (.inr (e ▸ h1 r hr))
      · exact pairwise_cases h2 r hr s hs
theorem PF.col {l : List Vec} (h : PF l) {r s : Vec} (hr : r ∈ l) (hs : s ∈ l) {c d : Nat} (h1 : Lead r c) (h2 : Lead s d) (hcd : c < d) : r d = false := by
  rcases pairwise_cases h.2 r hr s hs with rfl | h3 | h3
  · have := h1.unique h2; omega
  · exact (h3 c d h1 h2).2
  · have := (h3 d c h2 h1).1; omega

theorem sorted_eq {α : Type} {R : α → α → Prop} (irr : ∀ a, ¬ R a a) (asym : ∀ a b, R a b → ¬ R b a) : ∀ l m : List α, l.Pairwise R → m.Pairwise R → (∀ x, x ∈ l ↔ x ∈ m) → l = m
  | [], [], _, _, _ => rfl
  | [], b :: m, _, _, h => absurd ((h b).2 (by simp)) (by simp)
  | a :: l, [], _, _, h => absurd ((h a).1 (by simp)) (by simp)
  | a :: l, b :: m, hl, hm, h => by
    obtain ⟨l1, l2⟩ := List.pairwise_cons.1 hl
    obtain ⟨m1, m2⟩ := List.pairwise_cons.1 hm
    have e : a = b := by
      rcases List.mem_cons.1 ((h a).1 (by simp)) with e | h1
      · exact e
      · rcases List.mem_cons.1 ((h b).2 (by simp)) with e | h2
        · exact e.symm
        · exact absurd (l1 b h2) (asym _ _ (m1 a h1))
    subst e
    congr 1
    refine sorted_eq irr asym l m l2 m2 fun x => ⟨fun hx => ?_, fun hx => ?_⟩
    · rcases List.mem_cons.1 ((h x).1 (List.mem_cons_of_mem _ hx)) with e | h1
      · subst e; exact absurd (l1 x hx) (irr x)
      · exact h1
    · rcases List.mem_cons.1 ((h x).2 (List.mem_cons_of_mem _ hx)) with e | h1
      · subst e; exact absurd (m1 x hx) (irr x)
      · exact h1

theorem PF_mem {l m : List Vec} (hl : PF l) (hm : PF m) (h : SpEq l m) {r : Vec} (hr : r ∈ l) : r ∈ m := by
  obtain ⟨c, hc⟩ := hl.1 r hr
  rcases ech_lead hm.ech r ((h r).1 (.mem hr)) with e | ⟨s, hs, d, hd, hrd⟩
  · exact absurd e hc.ne
  · have := hc.unique hrd
    subst this
    have hsp : Sp m (vadd r s) := ((h r).1 (.mem hr)).add (.mem hs)
    rcases ech_lead hm.ech _ hsp with e | ⟨s', hs', d, hd', hx⟩
    · rw [vadd_eq_zero e]; exact hs
    · exfalso
      rcases ech_lead hl.ech _ ((h _).2 hsp) with e | ⟨r', hr', d', hd2, hx2⟩
      · exact hx.ne e
      · have := hx.unique hx2
        subst this
        have hcd : c < d := by
          apply Nat.lt_of_not_le
          intro hle
          have : vadd r s d = false := by
            by_cases e : d = c
            · subst e; simp only [vadd, hc.1, hd.1]; rfl
            · simp only [vadd, hc.2 d (by omega), hd.2 d (by omega)]; rfl
          rw [hx.1] at this
          cases this
        have : vadd r s d = false := by
          simp only [vadd, hl.col hr hr' hc hd2 hcd, hm.col hs hs' hd hd' hcd]; rfl
        rw [hx.1] at this
        cases this

theorem PF_unique {l m : List Vec} (hl : PF l) (hm : PF m) (h : SpEq l m) : l = m := by
  have key : ∀ {l : List Vec}, PF l → l.Pairwise (fun r s => ∃ c d, Lead r c ∧ Lead s d ∧ c < d) := fun {l} h => by
    refine List.Pairwise.imp_of_mem ?_ h.2
    intro r s hr hs hrs
    obtain ⟨c, hc⟩ := h.1 r hr
    obtain ⟨d, hd⟩ := h.1 s hs
    exact ⟨c, d, hc, hd, (hrs c d hc hd).1⟩
  refine sorted_eq ?_ ?_ l m (key hl) (key hm) fun x => ⟨PF_mem hl hm h, PF_mem hm hl h.symm⟩
  · rintro a ⟨c, d, h1, h2, h3⟩
    have := h1.unique h2
    omega
  · rintro a b ⟨c, d, h1, h2, h3⟩ ⟨c', d', h1', h2', h3'⟩
    have := h1.unique h2'
    have := h2.unique h1'
    omega

theorem PF.rank {l m : List Vec} (h : PF l) (he : SpEq l m) : l.length = rk m := rk_eq h.ech he

/-! ### rows in a triangle -/
theorem rk_tri {V : List Vec} (c : Nat → Nat) (h1 : ∀ i, i < V.length → V.getD i vzero (c i) = true) (h2 : ∀ i j, i < V.length → j < i → V.getD j vzero (c i) = false) : rk V = V.length := by
  have key : ∀ k, k ≤ V.length → rk (V.take k) = k := by
    intro k
    induction k with
    | zero =>
      intro _
      have := rk_le_length (V.take 0)
      simp at this
      simpa using this
    | succ k ih =>
      intro hk
      rw [rk_take_out (by omega) ?_, ih (by omega)]
      intro hs
      have h3 := hs.low (c := c k) fun r hr => by
        obtain ⟨j, hj, rfl⟩ := List.getElem_of_mem hr
        rw [List.length_take] at hj
        have h4 := h2 k j (by omega) (by omega)
        rw [List.getD_eq_getElem?_getD, List.getElem?_eq_getElem (by omega)] at h4
        simpa using h4
      rw [h1 k (by omega)] at h3
      cases h3
  have := key V.length (Nat.le_refl _)
  rwa [List.take_length] at this
end Go.Proofs.Yteilneoamhnndaa
