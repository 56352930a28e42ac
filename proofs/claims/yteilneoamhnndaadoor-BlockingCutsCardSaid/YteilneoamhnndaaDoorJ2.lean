import Derived.Test.YteilneoamhnndaaDoorJ4
import Derived.Laws.Bits128
import Derived.Test.YteilneoamhnndaaDoorSl
import Derived.BigQuiet
import Derived.WalkSmall
import Derived.Deep.QuietTactic
import Derived.Laws.ShiftsVar
import Derived.Test.YteilneoamhnndaaDoorLists
import Derived.OwnWalk
import Derived.WalkSpells
import Derived.WalkLawsBesides
import Derived.Deep.LoopGhost

section
/- Rows over two elements, no program: sums, what rows span, least columns; families of unlike least columns and ranks; the plain form is one. -/
namespace Go.Proofs.YteilneoamhnndaaDoor

abbrev Vec := Nat → Bool
def vadd (x y : Vec) : Vec := fun c => x c ^^ y c
def vzero : Vec := fun _ => false

theorem vadd_comm (x y : Vec) : vadd x y = vadd y x := by funext c; simp only [vadd]; cases x c <;> cases y c <;> rfl
theorem vadd_assoc (x y z : Vec) : vadd (vadd x y) z = vadd x (vadd y z) := by funext c; simp only [vadd]; cases x c <;> cases y c <;> cases z c <;> rfl
theorem vadd_right (x y z : Vec) : vadd (vadd x y) z = vadd (vadd x z) y := by funext c; simp only [vadd]; cases x c <;> cases y c <;> cases z c <;> rfl
theorem vadd_four (x y r : Vec) : vadd (vadd x r) (vadd y r) = vadd x y := by funext c; simp only [vadd]; cases x c <;> cases y c <;> cases r c <;> rfl
theorem vadd_zero (x : Vec) : vadd x vzero = x := by funext c; simp only [vadd, vzero]; cases x c <;> rfl
theorem vadd_self (x : Vec) : vadd x x = vzero := by funext c; simp only [vadd, vzero]; cases x c <;> rfl
theorem vadd_vadd (x y : Vec) : vadd (vadd x y) y = x := by funext c; simp only [vadd]; cases x c <;> cases y c <;> rfl
theorem vadd_eq_zero {x y : Vec} (h : vadd x y = vzero) : x = y := by
  have := congrArg (fun z => vadd z y) h
  simp only [vadd_vadd] at this
  rw [this, vadd_comm, vadd_zero]

structure Clo (S : Vec → Prop) : Prop where
  zero : S vzero
  add : ∀ x y, S x → S y → S (vadd x y)

/-- What a list of rows spans. -/
def Sp (l : List Vec) (x : Vec) : Prop := ∀ S : Vec → Prop, Clo S → (∀ r ∈ l, S r) → S x
theorem Sp.clo (l : List Vec) : Clo (Sp l) := ⟨fun _ h _ => h.zero, fun _ _ hx hy S h hl => h.add _ _ (hx S h hl) (hy S h hl)⟩
theorem Sp.zero (l : List Vec) : Sp l vzero := (Sp.clo l).zero
theorem Sp.add {l : List Vec} {x y : Vec} (hx : Sp l x) (hy : Sp l y) : Sp l (vadd x y) := (Sp.clo l).add _ _ hx hy
theorem Sp.mem {l : List Vec} {r : Vec} (h : r ∈ l) : Sp l r := fun _ _ hl => hl r h
theorem Sp.le {l m : List Vec} {x : Vec} (h : ∀ r ∈ l, Sp m r) (hx : Sp l x) : Sp m x := hx _ (Sp.clo m) h
theorem Sp.sub {l m : List Vec} {x : Vec} (h : ∀ r ∈ l, r ∈ m) (hx : Sp l x) : Sp m x := hx.le fun r hr => .mem (h r hr)
theorem Sp.of_add {l : List Vec} {x y : Vec} (h : Sp l (vadd x y)) (hy : Sp l y) : Sp l x := by
  have := h.add hy
  rwa [vadd_vadd] at this
theorem Sp.low {l : List Vec} {x : Vec} {c : Nat} (h : ∀ r ∈ l, r c = false) (hx : Sp l x) : x c = false :=
  hx (fun y => y c = false) ⟨rfl, fun x y h1 h2 => by simp only [vadd, h1, h2]; rfl⟩ h

def SpEq (l m : List Vec) : Prop := ∀ x, Sp l x ↔ Sp m x
theorem SpEq.of {l m : List Vec} (h1 : ∀ r ∈ l, Sp m r) (h2 : ∀ r ∈ m, Sp l r) : SpEq l m := fun _ => ⟨fun h => h.le h1, fun h => h.le h2⟩
theorem SpEq.refl (l : List Vec) : SpEq l l := fun _ => Iff.rfl
theorem SpEq.symm {l m : List Vec} (h : SpEq l m) : SpEq m l := fun x => (h x).symm
theorem SpEq.trans {l m k : List Vec} (h : SpEq l m) (h2 : SpEq m k) : SpEq l k := fun x => (h x).trans (h2 x)
theorem SpEq.of_mem {l m : List Vec} (h : ∀ r, r ∈ l ↔ r ∈ m) : SpEq l m := .of (fun r hr => .mem ((h r).1 hr)) (fun r hr => .mem ((h r).2 hr))
theorem SpEq.snoc {l m : List Vec} (h : SpEq l m) (r : Vec) : SpEq (l ++ [r]) (m ++ [r]) := .of
  (fun s hs => by
    rcases List.mem_append.1 hs with hs | hs
    · exact ((h s).1 (.mem hs)).sub fun t ht => List.mem_append.2 (.inl ht)
    · exact .mem (List.mem_append.2 (.inr hs)))
  (fun s hs => by
    rcases List.mem_append.1 hs with hs | hs
    · exact ((h s).2 (.mem hs)).sub fun t ht => List.mem_append.2 (.inl ht)
    · exact .mem (List.mem_append.2 (.inr hs)))
theorem SpEq.snoc_in {l : List Vec} {r : Vec} (h : Sp l r) : SpEq (l ++ [r]) l := .of
  (fun s hs => by
    rcases List.mem_append.1 hs with hs | hs
    · exact .mem hs
    · simp at hs; subst hs; exact h)
  (fun s hs => .mem (List.mem_append.2 (.inl hs)))

theorem Sp_nil {x : Vec} (h : Sp [] x) : x = vzero := h (· = vzero) ⟨rfl, by rintro _ _ rfl rfl; exact vadd_zero _⟩ (by simp)
theorem Sp_cons {r : Vec} {l : List Vec} {x : Vec} (h : Sp (r :: l) x) : Sp l x ∨ Sp l (vadd x r) := by
  refine h (fun x => Sp l x ∨ Sp l (vadd x r)) ⟨.inl (Sp.zero l), ?_⟩ ?_
  · rintro x y (hx | hx) (hy | hy)
    · exact .inl (hx.add hy)
    · right; rw [vadd_assoc]; exact hx.add hy
    · right; rw [vadd_right]; exact hx.add hy
    · left; have := hx.add hy; rwa [vadd_four] at this
  · intro s hs
    rcases List.mem_cons.1 hs with rfl | hs
    · right; rw [vadd_self]; exact Sp.zero l
    · exact .inl (.mem hs)

/-! ### least columns -/
def Lead (x : Vec) (c : Nat) : Prop := x c = true ∧ ∀ d, d < c → x d = false
theorem Lead.unique {x : Vec} {c d : Nat} (h : Lead x c) (k : Lead x d) : c = d := by
  rcases Nat.lt_trichotomy c d with h1 | h1 | h1
  · have := k.2 _ h1; rw [h.1] at this; cases this
  · exact h1
  · have := h.2 _ h1; rw [k.1] at this; cases this
theorem Lead.ne {x : Vec} {c : Nat} (h : Lead x c) : x ≠ vzero := by
  rintro rfl; cases h.1
theorem Lead.add_lt {x y : Vec} {c d : Nat} (hx : Lead x c) (hy : Lead y d) (h : c < d) : Lead (vadd x y) c :=
  ⟨by simp only [vadd, hx.1, hy.2 _ h]; rfl, fun e he => by simp only [vadd, hx.2 _ he, hy.2 _ (Nat.lt_trans he h)]; rfl⟩
theorem lead_or_zero (x : Vec) : x = vzero ∨ ∃ c, Lead x c := by
  by_cases h : ∃ c, Lead x c
  · exact .inr h
  · left
    have : ∀ n, ∀ c, c < n → x c = false := by
      intro n
      induction n with
      | zero => intro c hc; omega
      | succ n ih =>
        intro c hc
        by_cases e : c = n
        · subst e
          cases hx : x c with
          | false => rfl
          | true => exact absurd ⟨c, hx, ih⟩ h
        · exact ih c (by omega)
    funext c
    exact this (c + 1) c (by omega)

def Ech (l : List Vec) : Prop := (∀ r ∈ l, ∃ c, Lead r c) ∧ l.Pairwise (fun r s => ∀ c, Lead r c → ¬ Lead s c)

theorem ech_lead {l : List Vec} (h : Ech l) : ∀ x, Sp l x → x = vzero ∨ ∃ r ∈ l, ∃ c, Lead r c ∧ Lead x c := by
  induction l with
  | nil => intro x hx; exact .inl (Sp_nil hx)
  | cons r l ih =>
    intro x hx
    obtain ⟨h1, h2⟩ := h
    have ih' := ih ⟨fun s hs => h1 s (List.mem_cons_of_mem _ hs), (List.pairwise_cons.1 h2).2⟩
    rcases Sp_cons hx with hx | hx
    · rcases ih' x hx with e | ⟨s, hs, c, hc⟩
      · exact .inl e
      · exact .inr ⟨s, List.mem_cons_of_mem _ hs, c, hc⟩
    · obtain ⟨c, hc⟩ := h1 r (by simp)
      right
      rcases ih' _ hx with e | ⟨s, hs, d, hd, hxd⟩
      · have := vadd_eq_zero e
        subst this
        exact ⟨x, by simp, c, hc, hc⟩
      · have hne : c ≠ d := fun e => (List.pairwise_cons.1 h2).1 s hs c hc (e ▸ hd)
        have ex : x = vadd (vadd x r) r := (vadd_vadd x r).symm
        rcases Nat.lt_or_gt_of_ne hne with hl | hl
        · refine ⟨r, by simp, c, hc, ?_⟩
          rw [ex, vadd_comm]
          exact hc.add_lt hxd hl
        · refine ⟨s, List.mem_cons_of_mem _ hs, d, hd, ?_⟩
          rw [ex]
          exact hxd.add_lt hc hl

theorem inj_len {α β : Type} (R : α → β → Prop) : ∀ (l : List α) (m : List β), (∀ r ∈ l, ∃ s ∈ m, R r s) → l.Pairwise (fun r r' => ∀ s, R r s → ¬ R r' s) → l.length ≤ m.length
  | [], _, _, _ => Nat.zero_le _
  | r :: l, m, h, hp => by
    obtain ⟨s, hs, hr⟩ := h r (by simp)
    obtain ⟨m1, m2, rfl⟩ := List.append_of_mem hs
    have := inj_len R l (m1 ++ m2) (fun r' hr' => by
      obtain ⟨s', hs', hr2⟩ := h r' (List.mem_cons_of_mem _ hr')
      refine ⟨s', ?_, hr2⟩
      have hne : s' ≠ s := fun e => (List.pairwise_cons.1 hp).1 r' hr' s hr (e ▸ hr2)
      simp only [List.mem_append, List.mem_cons] at hs' ⊢
      rcases hs' with h1 | h1 | h1
      · exact .inl h1
      · exact absurd h1 hne
      · exact .inr h1) (List.pairwise_cons.1 hp).2
    simp only [List.length_append, List.length_cons] at this ⊢
    omega

theorem ech_le {l m : List Vec} (hl : Ech l) (hm : Ech m) (h : ∀ r ∈ l, Sp m r) : l.length ≤ m.length := by
  refine inj_len (fun r s => ∃ c, Lead r c ∧ Lead s c) l m ?_ (hl.2.imp ?_)
  · intro r hr
    obtain ⟨c, hc⟩ := hl.1 r hr
    rcases ech_lead hm r (h r hr) with e | ⟨s, hs, d, hd, hrd⟩
    · exact absurd e hc.ne
    · exact ⟨s, hs, d, hrd, hd⟩
  · rintro r r' hrr s ⟨c, h1, h2⟩ ⟨d, h3, h4⟩
    have := h2.unique h4
    subst this
    exact hrr _ h1 h3

theorem ech_length {l m : List Vec} (hl : Ech l) (hm : Ech m) (h : SpEq l m) : l.length = m.length :=
  Nat.le_antisymm (ech_le hl hm fun r hr => (h r).1 (.mem hr)) (ech_le hm hl fun r hr => (h r).2 (.mem hr))

theorem ech_snoc {m : List Vec} {x : Vec} {c : Nat} (hm : Ech m) (hx : Lead x c) (h : ∀ s ∈ m, ¬ Lead s c) : Ech (m ++ [x]) := by
  refine ⟨fun r hr => ?_, List.pairwise_append.2 ⟨hm.2, by simp, fun r hr s hs => ?_⟩⟩
  · rcases List.mem_append.1 hr with hr | hr
    · exact hm.1 r hr
    · simp at hr; subst hr; exact ⟨c, hx⟩
  · simp at hs
    subst hs
    intro d hd hxd
    have := hx.unique hxd
    subst this
    exact h r hr hd

/-- A row that no stair takes further down hangs on nothing. -/
theorem ech_new {m : List Vec} {x : Vec} {c : Nat} (hm : Ech m) (hx : Lead x c) (h : ∀ s ∈ m, ¬ Lead s c) : ¬ Sp m x := by
  intro hs
  rcases ech_lead hm x hs with e | ⟨s, hs, d, hd, hxd⟩
  · exact hx.ne e
  · have := hx.unique hxd
    subst this
    exact h s hs hd

/-! ### ranks -/
theorem reduce (m : List Vec) (r : Vec) : ∀ k, ∃ x, Sp m (vadd x r) ∧ ∀ c, c < k → Lead x c → ∀ s ∈ m, ¬ Lead s c := by
  intro k
  induction k with
  | zero => exact ⟨r, by rw [vadd_self]; exact Sp.zero m, fun c hc => by omega⟩
  | succ k ih =>
    obtain ⟨x, hx, hk⟩ := ih
    by_cases h : Lead x k ∧ ∃ s ∈ m, Lead s k
    · obtain ⟨h1, s, hs, h2⟩ := h
      refine ⟨vadd x s, by rw [vadd_right]; exact hx.add (.mem hs), fun c hc hl => ?_⟩
      have : vadd x s c = false := by
        by_cases e : c = k
        · subst e; simp only [vadd, h1.1, h2.1]; rfl
        · simp only [vadd, h1.2 c (by omega), h2.2 c (by omega)]; rfl
      rw [hl.1] at this
      cases this
    · refine ⟨x, hx, fun c hc hl s hs hsl => ?_⟩
      by_cases e : c = k
      · subst e; exact h ⟨hl, s, hs, hsl⟩
      · exact hk c (by omega) hl s hs hsl

theorem bound_leads : ∀ m : List Vec, ∃ N, ∀ s ∈ m, ∀ c, Lead s c → c < N
  | [] => ⟨0, by simp⟩
  | s :: m => by
    obtain ⟨N, hN⟩ := bound_leads m
    by_cases h : ∃ c, Lead s c
    · obtain ⟨c, hc⟩ := h
      refine ⟨N + c + 1, fun t ht d hd => ?_⟩
      rcases List.mem_cons.1 ht with rfl | ht
      · have := hc.unique hd; omega
      · have := hN t ht d hd; omega
    · refine ⟨N, fun t ht d hd => ?_⟩
      rcases List.mem_cons.1 ht with rfl | ht
      · exact absurd ⟨d, hd⟩ h
      · exact hN t ht d hd

theorem ech_exists : ∀ l : List Vec, ∃ m, Ech m ∧ SpEq m l ∧ m.length ≤ l.length
  | [] => ⟨[], ⟨by simp, by simp⟩, SpEq.refl _, Nat.le_refl _⟩
  | r :: l => by
    obtain ⟨m, hm, he, hl⟩ := ech_exists l
    obtain ⟨N, hN⟩ := bound_leads m
    obtain ⟨x, hx, hk⟩ := reduce m r N
    have hmem : ∀ s ∈ m, Sp (r :: l) s := fun s hs => ((he s).1 (.mem hs)).sub fun t ht => List.mem_cons_of_mem _ ht
    rcases lead_or_zero x with rfl | ⟨c, hc⟩
    · have hr : Sp m r := by rw [vadd_comm, vadd_zero] at hx; exact hx
      refine ⟨m, hm, .of hmem (fun s hs => ?_), by simp; omega⟩
      rcases List.mem_cons.1 hs with rfl | hs
      · exact hr
      · exact (he s).2 (.mem hs)
    · have hn : ∀ s ∈ m, ¬ Lead s c := fun s hs hsc => hk c (hN s hs c hsc) hc s hs hsc
      refine ⟨m ++ [x], ech_snoc hm hc hn, .of (fun s hs => ?_) (fun s hs => ?_), by simp; omega⟩
      · rcases List.mem_append.1 hs with hs | hs
        · exact hmem s hs
        · simp at hs
          subst hs
          exact (hx.le hmem).of_add (.mem (by simp))
      · rcases List.mem_cons.1 hs with rfl | hs
        · have h1 : Sp (m ++ [x]) (vadd x s) := hx.sub fun t ht => List.mem_append.2 (.inl ht)
          rw [vadd_comm] at h1
          exact h1.of_add (.mem (by simp))
        · exact ((he s).2 (.mem hs)).sub fun t ht => List.mem_append.2 (.inl ht)

noncomputable def rk (l : List Vec) : Nat := (Classical.choose (ech_exists l)).length
theorem rk_eq {l m : List Vec} (hm : Ech m) (h : SpEq m l) : m.length = rk l := by
  obtain ⟨h1, h2, _⟩ := Classical.choose_spec (ech_exists l)
  exact ech_length hm h1 (h.trans h2.symm)
theorem rk_congr {l m : List Vec} (h : SpEq l m) : rk l = rk m := by
  obtain ⟨h1, h2, _⟩ := Classical.choose_spec (ech_exists l)
  exact rk_eq h1 (h2.trans h)
theorem rk_le_length (l : List Vec) : rk l ≤ l.length := (Classical.choose_spec (ech_exists l)).2.2
theorem rk_in {l : List Vec} {r : Vec} (h : Sp l r) : rk (l ++ [r]) = rk l := rk_congr (.snoc_in h)
theorem rk_out {l : List Vec} {r : Vec} (h : ¬ Sp l r) : rk (l ++ [r]) = rk l + 1 := by
  obtain ⟨m, hm, he, -⟩ := ech_exists l
  obtain ⟨N, hN⟩ := bound_leads m
  obtain ⟨x, hx, hk⟩ := reduce m r N
  have hz : x ≠ vzero := by
    rintro rfl
    rw [vadd_comm, vadd_zero] at hx
    exact h ((he r).1 hx)
  rcases lead_or_zero x with e | ⟨c, hc⟩
  · exact absurd e hz
  · have hn : ∀ s ∈ m, ¬ Lead s c := fun s hs hsc => hk c (hN s hs c hsc) hc s hs hsc
    have h2 : SpEq (m ++ [x]) (l ++ [r]) := by
      refine SpEq.trans ?_ (he.snoc r)
      refine .of (fun s hs => ?_) (fun s hs => ?_)
      · rcases List.mem_append.1 hs with hs | hs
        · exact .mem (List.mem_append.2 (.inl hs))
        · simp at hs
          subst hs
          have h1 : Sp (m ++ [r]) (vadd s r) := hx.sub fun t ht => List.mem_append.2 (.inl ht)
          exact h1.of_add (.mem (by simp))
      · rcases List.mem_append.1 hs with hs | hs
        · exact .mem (List.mem_append.2 (.inl hs))
        · simp at hs
          subst hs
          have h1 : Sp (m ++ [x]) (vadd x s) := hx.sub fun t ht => List.mem_append.2 (.inl ht)
          rw [vadd_comm] at h1
          exact h1.of_add (.mem (by simp))
    have e1 := rk_eq (ech_snoc hm hc hn) h2
    have e2 := rk_eq hm he
    simp at e1
    omega
theorem rk_le_cols {l : List Vec} {n : Nat} (h : ∀ r ∈ l, ∀ c, n ≤ c → r c = false) : rk l ≤ n := by
  obtain ⟨m, hm, he, -⟩ := ech_exists l
  rw [← rk_eq hm he]
  have := inj_len (fun (r : Vec) (c : Nat) => Lead r c) m (List.range n) (fun r hr => by
    obtain ⟨c, hc⟩ := hm.1 r hr
    refine ⟨c, ?_, hc⟩
    rw [List.mem_range]
    apply Nat.lt_of_not_le
    intro hn
    have := Sp.low (fun s hs => h s hs c hn) ((he r).1 (.mem hr))
    rw [hc.1] at this
    cases this) (hm.2.imp fun h c => h c)
  simpa using this

open Classical in
/-- The places below k of the rows that do not hang on those ahead of them. -/
noncomputable def picksTo (l : List Vec) (k : Nat) : List Nat := (List.range k).filter fun i => decide (¬ Sp (l.take i) (l.getD i vzero))
theorem picksTo_in {l : List Vec} {k : Nat} (h : Sp (l.take k) (l.getD k vzero)) : picksTo l (k + 1) = picksTo l k := by
  unfold picksTo; rw [List.range_succ, List.filter_append]; simp only [List.filter_cons, List.filter_nil, not_true_eq_false, decide_false, h]; simp
theorem picksTo_out {l : List Vec} {k : Nat} (h : ¬ Sp (l.take k) (l.getD k vzero)) : picksTo l (k + 1) = picksTo l k ++ [k] := by
  unfold picksTo; rw [List.range_succ, List.filter_append]; simp only [List.filter_cons, List.filter_nil, not_false_eq_true, decide_true, h]; simp
theorem picksTo_le (l : List Vec) (k : Nat) : (picksTo l k).length ≤ k := by
  unfold picksTo; exact Nat.le_trans (List.length_filter_le _ _) (by simp)
theorem take_snoc {l : List Vec} {k : Nat} (h : k < l.length) : l.take (k + 1) = l.take k ++ [l.getD k vzero] := by
  rw [List.take_succ_eq_append_getElem h]
  simp [List.getD_eq_getElem?_getD, h]
theorem rk_take_in {l : List Vec} {k : Nat} (h : k < l.length) (hs : Sp (l.take k) (l.getD k vzero)) : rk (l.take (k + 1)) = rk (l.take k) := by rw [take_snoc h]; exact rk_in hs
theorem rk_take_out {l : List Vec} {k : Nat} (h : k < l.length) (hs : ¬ Sp (l.take k) (l.getD k vzero)) : rk (l.take (k + 1)) = rk (l.take k) + 1 := by rw [take_snoc h]; exact rk_out hs
theorem picksTo_length (l : List Vec) : ∀ k, k ≤ l.length → (picksTo l k).length = rk (l.take k)
  | 0, _ => by
    have := rk_le_length (l.take 0)
    simp at this
    simp [picksTo, this]
  | k + 1, hk => by
    have ih := picksTo_length l k (by omega)
    by_cases h : Sp (l.take k) (l.getD k vzero)
    · rw [picksTo_in h, rk_take_in (by omega) h, ih]
    · rw [picksTo_out h, rk_take_out (by omega) h, List.length_append, ih]; rfl

/-! ### the plain form -/
def PF (l : List Vec) : Prop := (∀ r ∈ l, ∃ c, Lead r c) ∧ l.Pairwise (fun r s => ∀ c d, Lead r c → Lead s d → c < d ∧ r d = false)
theorem PF.ech {l : List Vec} (h : PF l) : Ech l := by
  refine ⟨h.1, h.2.imp fun h c h1 h2 => ?_⟩
  have := (h c c h1 h2).1
  omega
theorem pairwise_cases {α : Type} {R : α → α → Prop} : ∀ {l : List α}, l.Pairwise R → ∀ r ∈ l, ∀ s ∈ l, r = s ∨ R r s ∨ R s r
  | [], _, _, hr, _, _ => by simp at hr
  | a :: l, h, r, hr, s, hs => by
    obtain ⟨h1, h2⟩ := List.pairwise_cons.1 h
    rcases List.mem_cons.1 hr with rfl | hr
    · rcases List.mem_cons.1 hs with rfl | hs
      · exact .inl rfl
      · exact .inr (.inl (h1 s hs))
    · rcases List.mem_cons.1 hs with e | hs
      · exact .inr (.inr (e ▸ h1 r hr))
      · exact pairwise_cases h2 r hr s hs
theorem PF.col {l : List Vec} (h : PF l) {r s : Vec} (hr : r ∈ l) (hs : s ∈ l) {c d : Nat} (h1 : Lead r c) (h2 : Lead s d) (hcd : c < d) : r d = false := by
  rcases pairwise_cases h.2 r hr s hs with rfl | h3 | h3
  · have := h1.unique h2; omega
  · exact (h3 c d h1 h2).2
  · have := (h3 d c h2 h1).1; omega

theorem sorted_eq {α : Type} {R : α → α → Prop} (irr : ∀ a, ¬ R a a) (asym : ∀ a b, R a b → ¬ R b a) : ∀ l m : List α, l.Pairwise R → m.Pairwise R → (∀ x, x ∈ l ↔ x ∈ m) → l = m
  | [], [], _, _, _ => rfl
  | [], b :: m, _, _, h => absurd ((h b).2 (by simp)) (by simp)
  | a :: l, [], _, _, h => absurd ((h a).1 (by simp)) (by simp)
  | a :: l, b :: m, hl, hm, h => by
    obtain ⟨l1, l2⟩ := List.pairwise_cons.1 hl
    obtain ⟨m1, m2⟩ := List.pairwise_cons.1 hm
    have e : a = b := by
      rcases List.mem_cons.1 ((h a).1 (by simp)) with e | h1
      · exact e
      · rcases List.mem_cons.1 ((h b).2 (by simp)) with e | h2
        · exact e.symm
        · exact absurd (l1 b h2) (asym _ _ (m1 a h1))
    subst e
    congr 1
    refine sorted_eq irr asym l m l2 m2 fun x => ⟨fun hx => ?_, fun hx => ?_⟩
    · rcases List.mem_cons.1 ((h x).1 (List.mem_cons_of_mem _ hx)) with e | h1
      · subst e; exact absurd (l1 x hx) (irr x)
      · exact h1
    · rcases List.mem_cons.1 ((h x).2 (List.mem_cons_of_mem _ hx)) with e | h1
      · subst e; exact absurd (m1 x hx) (irr x)
      · exact h1

theorem PF_mem {l m : List Vec} (hl : PF l) (hm : PF m) (h : SpEq l m) {r : Vec} (hr : r ∈ l) : r ∈ m := by
  obtain ⟨c, hc⟩ := hl.1 r hr
  rcases ech_lead hm.ech r ((h r).1 (.mem hr)) with e | ⟨s, hs, d, hd, hrd⟩
  · exact absurd e hc.ne
  · have := hc.unique hrd
    subst this
    have hsp : Sp m (vadd r s) := ((h r).1 (.mem hr)).add (.mem hs)
    rcases ech_lead hm.ech _ hsp with e | ⟨s', hs', d, hd', hx⟩
    · rw [vadd_eq_zero e]; exact hs
    · exfalso
      rcases ech_lead hl.ech _ ((h _).2 hsp) with e | ⟨r', hr', d', hd2, hx2⟩
      · exact hx.ne e
      · have := hx.unique hx2
        subst this
        have hcd : c < d := by
          apply Nat.lt_of_not_le
          intro hle
          have : vadd r s d = false := by
            by_cases e : d = c
            · subst e; simp only [vadd, hc.1, hd.1]; rfl
            · simp only [vadd, hc.2 d (by omega), hd.2 d (by omega)]; rfl
          rw [hx.1] at this
          cases this
        have : vadd r s d = false := by
          simp only [vadd, hl.col hr hr' hc hd2 hcd, hm.col hs hs' hd hd' hcd]; rfl
        rw [hx.1] at this
        cases this

theorem PF_unique {l m : List Vec} (hl : PF l) (hm : PF m) (h : SpEq l m) : l = m := by
  have key : ∀ {l : List Vec}, PF l → l.Pairwise (fun r s => ∃ c d, Lead r c ∧ Lead s d ∧ c < d) := fun {l} h => by
    refine List.Pairwise.imp_of_mem ?_ h.2
    intro r s hr hs hrs
    obtain ⟨c, hc⟩ := h.1 r hr
    obtain ⟨d, hd⟩ := h.1 s hs
    exact ⟨c, d, hc, hd, (hrs c d hc hd).1⟩
  refine sorted_eq ?_ ?_ l m (key hl) (key hm) fun x => ⟨PF_mem hl hm h, PF_mem hm hl h.symm⟩
  · rintro a ⟨c, d, h1, h2, h3⟩
    have := h1.unique h2
    omega
  · rintro a b ⟨c, d, h1, h2, h3⟩ ⟨c', d', h1', h2', h3'⟩
    have := h1.unique h2'
    have := h2.unique h1'
    omega

theorem PF.rank {l m : List Vec} (h : PF l) (he : SpEq l m) : l.length = rk m := rk_eq h.ech he

/-! ### rows in a triangle -/
theorem rk_tri {V : List Vec} (c : Nat → Nat) (h1 : ∀ i, i < V.length → V.getD i vzero (c i) = true) (h2 : ∀ i j, i < V.length → j < i → V.getD j vzero (c i) = false) : rk V = V.length := by
  have key : ∀ k, k ≤ V.length → rk (V.take k) = k := by
    intro k
    induction k with
    | zero =>
      intro _
      have := rk_le_length (V.take 0)
      simp at this
      simpa using this
    | succ k ih =>
      intro hk
      rw [rk_take_out (by omega) ?_, ih (by omega)]
      intro hs
      have h3 := hs.low (c := c k) fun r hr => by
        obtain ⟨j, hj, rfl⟩ := List.getElem_of_mem hr
        rw [List.length_take] at hj
        have h4 := h2 k j (by omega) (by omega)
        rw [List.getD_eq_getElem?_getD, List.getElem?_eq_getElem (by omega)] at h4
        simpa using h4
      rw [h1 k (by omega)] at h3
      cases h3
  have := key V.length (Nat.le_refl _)
  rwa [List.take_length] at this
end Go.Proofs.YteilneoamhnndaaDoor
end

section
/- Rows over two elements, no program: the elimination column by column; stairs, how a row is taken down by them, how they are made plain. -/
namespace Go.Proofs.YteilneoamhnndaaDoor

theorem mem_getD {R : List Vec} {r : Vec} : r ∈ R ↔ ∃ k, k < R.length ∧ R.getD k vzero = r := by
  rw [List.mem_iff_getElem]
  constructor
  · rintro ⟨k, hk, e⟩; exact ⟨k, hk, by simp [hk, e]⟩
  · rintro ⟨k, hk, e⟩; exact ⟨k, hk, by simpa [hk] using e⟩
theorem getD_mem {R : List Vec} {k : Nat} (h : k < R.length) : R.getD k vzero ∈ R := mem_getD.2 ⟨k, h, rfl⟩

/-! ### column by column -/
def swf (R : List Vec) (a b k : Nat) : Vec := if k = b then R.getD a vzero else if k = a then R.getD b vzero else R.getD k vzero
def clf (q : Nat → Vec) (a c k : Nat) : Vec := if k ≠ a ∧ q k c = true then vadd (q k) (q a) else q k

structure GI (R : List Vec) (done c : Nat) (p : Nat → Nat) : Prop where
  le : done ≤ R.length
  lead : ∀ j, j < done → Lead (R.getD j vzero) (p j) ∧ p j < c
  rise : ∀ j k, j < k → k < done → p j < p k
  one : ∀ j k, j < done → k < R.length → k ≠ j → R.getD k vzero (p j) = false
  low : ∀ k, done ≤ k → k < R.length → ∀ d, d < c → R.getD k vzero d = false

theorem GI.start (R : List Vec) (p : Nat → Nat) : GI R 0 0 p := ⟨Nat.zero_le _, fun _ h => by omega, fun _ _ _ h => by omega, fun _ _ h => by omega, fun _ _ _ _ h => by omega⟩

theorem GI.skip {R : List Vec} {done c : Nat} {p : Nat → Nat} (h : GI R done c p) (hn : ∀ k, done ≤ k → k < R.length → R.getD k vzero c = false) : GI R done (c + 1) p :=
  ⟨h.le, fun j hj => ⟨(h.lead j hj).1, by have := (h.lead j hj).2; omega⟩, h.rise, h.one, fun k h1 h2 d hd => by
    by_cases e : d = c
    · subst e; exact hn k h1 h2
    · exact h.low k h1 h2 d (by omega)⟩

section
variable {R R' : List Vec} {done c i : Nat} {p : Nat → Nat}

theorem swf_done (R : List Vec) (done i : Nat) : swf R done i done = R.getD i vzero := by
  unfold swf
  by_cases e : done = i
  · subst e; simp
  · rw [if_neg e, if_pos rfl]
theorem swf_lt (R : List Vec) {done i k : Nat} (hi : done ≤ i) (hk : k < done) : swf R done i k = R.getD k vzero := by
  unfold swf; rw [if_neg (by omega), if_neg (by omega)]
theorem swf_ge (R : List Vec) {done i k : Nat} (hi : done ≤ i) (hil : i < R.length) (hk : done ≤ k) (hkl : k < R.length) : ∃ k', done ≤ k' ∧ k' < R.length ∧ swf R done i k = R.getD k' vzero := by
  unfold swf
  by_cases e : k = i
  · exact ⟨done, Nat.le_refl _, by omega, by rw [if_pos e]⟩
  · by_cases e2 : k = done
    · exact ⟨i, hi, hil, by rw [if_neg e, if_pos e2]⟩
    · exact ⟨k, hk, hkl, by rw [if_neg e, if_neg e2]⟩
theorem clf_at (q : Nat → Vec) (a c : Nat) : clf q a c a = q a := by unfold clf; rw [if_neg (by simp)]
theorem clf_cases (q : Nat → Vec) (a c k : Nat) : (clf q a c k = q k) ∨ (clf q a c k = vadd (q k) (q a)) := by
  unfold clf; split
  · exact .inr rfl
  · exact .inl rfl
theorem clf_col (q : Nat → Vec) (a c k : Nat) (hk : k ≠ a) (ha : q a c = true) : clf q a c k c = false := by
  unfold clf
  by_cases h : q k c = true
  · rw [if_pos ⟨hk, h⟩]; simp only [vadd, h, ha]; rfl
  · rw [if_neg (fun h' => h h'.2)]; simpa using h
theorem clf_low (q : Nat → Vec) (a c k d : Nat) (h1 : q k d = false) (h2 : q a d = false) : clf q a c k d = false := by
  rcases clf_cases q a c k with e | e <;> rw [e]
  · exact h1
  · simp only [vadd, h1, h2]; rfl

theorem GI.step (h : GI R done c p) (hi : done ≤ i) (hil : i < R.length) (hc : R.getD i vzero c = true) (hlen : R'.length = R.length)
    (hR : ∀ k, k < R.length → R'.getD k vzero = clf (swf R done i) done c k) : GI R' (done + 1) (c + 1) (fun j => if j = done then c else p j) := by
  have hdl : done < R.length := by omega
  have hP : Lead (swf R done i done) c := by
    rw [swf_done]
    exact ⟨hc, fun d hd => h.low i hi hil d hd⟩
  have hPd : ∀ j, j < done → swf R done i done (p j) = false := fun j hj => hP.2 _ (h.lead j hj).2
  have hge : ∀ k, done ≤ k → k < R.length → ∀ d, d < c → swf R done i k d = false := fun k h1 h2 d hd => by
    obtain ⟨k', a, b, e⟩ := swf_ge R hi hil h1 h2
    rw [e]; exact h.low k' a b d hd
  refine ⟨by omega, fun j hj => ?_, fun j k hjk hk => ?_, fun j k hj hk hkj => ?_, fun k hk hkl d hd => ?_⟩
  · by_cases e : j = done
    · subst e
      rw [if_pos rfl, hR j hdl, clf_at]
      exact ⟨hP, by omega⟩
    · have hj' : j < done := by omega
      rw [if_neg e, hR j (by omega)]
      obtain ⟨h1, h2⟩ := h.lead j hj'
      refine ⟨?_, by omega⟩
      rcases clf_cases (swf R done i) done c j with e' | e' <;> rw [e']
      · rw [swf_lt R hi hj']; exact h1
      · rw [swf_lt R hi hj']; exact h1.add_lt hP h2
  · have hjd : j < done := by omega
    rw [if_neg (show ¬ j = done by omega)]
    by_cases e : k = done
    · rw [if_pos e]; exact (h.lead j hjd).2
    · rw [if_neg e]; exact h.rise j k hjk (by omega)
  · rw [hlen] at hk
    rw [hR k hk]
    by_cases e : j = done
    · subst e
      rw [if_pos rfl]
      exact clf_col _ _ _ _ hkj hP.1
    · have hj' : j < done := by omega
      rw [if_neg e]
      refine clf_low _ _ _ _ _ ?_ (hPd j hj')
      by_cases hkd : k < done
      · rw [swf_lt R hi hkd]; exact h.one j k hj' hk hkj
      · obtain ⟨k', a, b, e'⟩ := swf_ge R hi hil (by omega) hk
        rw [e']
        exact h.one j k' hj' b (by omega)
  · rw [hlen] at hkl
    rw [hR k hkl]
    by_cases e : d = c
    · subst e; exact clf_col _ _ _ _ (by omega) hP.1
    · exact clf_low _ _ _ _ _ (hge k (by omega) hkl d (by omega)) (hge done (Nat.le_refl _) hdl d (by omega))

theorem gauss_span (hi : done ≤ i) (hil : i < R.length) (hlen : R'.length = R.length) (hR : ∀ k, k < R.length → R'.getD k vzero = clf (swf R done i) done c k) : SpEq R' R := by
  have hdl : done < R.length := by omega
  have hq : ∀ k, k < R.length → swf R done i k ∈ R := fun k hk => by
    unfold swf
    split
    · exact getD_mem hdl
    · split
      · exact getD_mem hil
      · exact getD_mem hk
  have hd : Sp R' (swf R done i done) := by
    refine .mem (mem_getD.2 ⟨done, by omega, ?_⟩)
    rw [hR done hdl, clf_at]
  have hq2 : ∀ k, k < R.length → Sp R' (swf R done i k) := fun k hk => by
    have h1 : Sp R' (R'.getD k vzero) := .mem (getD_mem (by omega))
    rw [hR k hk] at h1
    rcases clf_cases (swf R done i) done c k with e | e <;> rw [e] at h1
    · exact h1
    · exact h1.of_add hd
  refine .of (fun r hr => ?_) (fun r hr => ?_)
  · obtain ⟨k, hk, rfl⟩ := mem_getD.1 hr
    rw [hlen] at hk
    rw [hR k hk]
    rcases clf_cases (swf R done i) done c k with e | e <;> rw [e]
    · exact .mem (hq k hk)
    · exact (Sp.mem (hq k hk)).add (.mem (hq done hdl))
  · obtain ⟨k, hk, rfl⟩ := mem_getD.1 hr
    by_cases e1 : k = done
    · subst e1
      have := hq2 i hil
      unfold swf at this
      rwa [if_pos rfl] at this
    · by_cases e2 : k = i
      · subst e2
        have := hq2 done hdl
        rwa [swf_done] at this
      · have := hq2 k hk
        unfold swf at this
        rwa [if_neg e2, if_neg e1] at this

theorem GI.finish {n : Nat} (h : GI R done n p) (hn : ∀ r ∈ R, ∀ c, n ≤ c → r c = false) : PF (R.take done) ∧ SpEq (R.take done) R := by
  have hle := h.le
  have hg : ∀ j (hj : j < (R.take done).length), (R.take done)[j] = R.getD j vzero := fun j hj => by
    rw [List.length_take] at hj
    have : j < R.length := by omega
    simp [this]
  have hlt : (R.take done).length = done := by rw [List.length_take]; omega
  refine ⟨⟨fun r hr => ?_, ?_⟩, .of (fun r hr => .mem (List.mem_of_mem_take hr)) (fun r hr => ?_)⟩
  · obtain ⟨j, hj, rfl⟩ := List.mem_iff_getElem.1 hr
    rw [hg j hj]
    exact ⟨_, (h.lead j (by omega)).1⟩
  · rw [List.pairwise_iff_getElem]
    intro j k hj hk hjk c d h1 h2
    rw [hg j hj] at h1 ⊢
    rw [hg k hk] at h2
    have e1 := h1.unique (h.lead j (by omega)).1
    have e2 := h2.unique (h.lead k (by omega)).1
    subst e1 e2
    exact ⟨h.rise j k hjk (by omega), h.one k j (by omega) (by omega) (by omega)⟩
  · obtain ⟨k, hk, rfl⟩ := mem_getD.1 hr
    by_cases hkd : k < done
    · refine .mem (List.mem_iff_getElem.2 ⟨k, by omega, hg k (by omega)⟩)
    · have : R.getD k vzero = vzero := by
        funext d
        by_cases hd : d < n
        · exact h.low k (by omega) hk d hd
        · exact hn _ hr d (by omega)
      rw [this]
      exact Sp.zero _
end

/-! ### stairs -/
def stL (U : Nat → Vec) (n : Nat) : List Vec := (List.range n).map U
theorem mem_stL {U : Nat → Vec} {n : Nat} {r : Vec} : r ∈ stL U n ↔ ∃ c, c < n ∧ U c = r := by
  unfold stL
  rw [List.mem_map]
  constructor
  · rintro ⟨c, hc, e⟩; exact ⟨c, List.mem_range.1 hc, e⟩
  · rintro ⟨c, hc, e⟩; exact ⟨c, List.mem_range.2 hc, e⟩
def upd (U : Nat → Vec) (a : Nat) (x : Vec) : Nat → Vec := fun d => if d = a then x else U d
theorem upd_same (U : Nat → Vec) (a : Nat) (x : Vec) : upd U a x a = x := if_pos rfl
theorem upd_other (U : Nat → Vec) {a d : Nat} (x : Vec) (h : d ≠ a) : upd U a x d = U d := if_neg h

def Stair (U : Nat → Vec) (n : Nat) : Prop := ∀ c, c < n → U c = vzero ∨ Lead (U c) c
open Classical in
/-- The stairs that are there, in order. -/
noncomputable def stNZ (U : Nat → Vec) (n : Nat) : List Vec := ((List.range n).filter fun c => decide (U c ≠ vzero)).map U
theorem mem_stNZ {U : Nat → Vec} {n : Nat} {r : Vec} : r ∈ stNZ U n ↔ ∃ c, c < n ∧ U c ≠ vzero ∧ U c = r := by
  unfold stNZ
  simp only [List.mem_map, List.mem_filter, List.mem_range, decide_eq_true_eq, and_assoc]
theorem stNZ_span (U : Nat → Vec) (n : Nat) : SpEq (stNZ U n) (stL U n) := .of
  (fun r hr => by obtain ⟨c, hc, _, e⟩ := mem_stNZ.1 hr; exact .mem (mem_stL.2 ⟨c, hc, e⟩))
  (fun r hr => by
    obtain ⟨c, hc, e⟩ := mem_stL.1 hr
    by_cases hz : U c = vzero
    · rw [← e, hz]; exact Sp.zero _
    · exact .mem (mem_stNZ.2 ⟨c, hc, hz, e⟩))

theorem stNZ_ech {U : Nat → Vec} {n : Nat} (h : Stair U n) : Ech (stNZ U n) := by
  refine ⟨fun r hr => ?_, ?_⟩
  · obtain ⟨c, hc, hz, rfl⟩ := mem_stNZ.1 hr
    exact ⟨c, (h c hc).resolve_left hz⟩
  · unfold stNZ
    rw [List.pairwise_map]
    refine List.Pairwise.imp_of_mem ?_ (List.Pairwise.filter _ (List.pairwise_lt_range (n := n)))
    intro a b ha hb hab c h1 h2
    simp only [List.mem_filter, List.mem_range, decide_eq_true_eq] at ha hb
    have e1 := ((h a ha.1).resolve_left ha.2).unique h1
    have e2 := ((h b hb.1).resolve_left hb.2).unique h2
    omega

/-- A row that was taken down to a column where no stair is. -/
theorem stair_new {U : Nat → Vec} {n : Nat} (h : Stair U n) {x : Vec} {c : Nat} (hc : U c = vzero) (hx : Lead x c) : ¬ Sp (stL U n) x := fun hs => by
  refine ech_new (stNZ_ech h) hx (fun s hs hl => ?_) ((stNZ_span U n x).2 hs)
  obtain ⟨d, hd, hz, rfl⟩ := mem_stNZ.1 hs
  have := ((h d hd).resolve_left hz).unique hl
  subst this
  exact hz hc

theorem stair_upd {U : Nat → Vec} {n : Nat} (h : Stair U n) {x : Vec} {c : Nat} (hx : Lead x c) : Stair (upd U c x) n := fun d hd => by
  by_cases e : d = c
  · subst e; rw [upd_same]; exact .inr hx
  · rw [upd_other U x e]; exact h d hd

theorem span_upd {U : Nat → Vec} {n : Nat} {x : Vec} {c : Nat} (hcn : c < n) (hc : U c = vzero) : SpEq (stL (upd U c x) n) (stL U n ++ [x]) := .of
  (fun r hr => by
    obtain ⟨d, hd, rfl⟩ := mem_stL.1 hr
    by_cases e : d = c
    · subst e; rw [upd_same]; exact .mem (by simp)
    · rw [upd_other U x e]; exact .mem (List.mem_append.2 (.inl (mem_stL.2 ⟨d, hd, rfl⟩))))
  (fun r hr => by
    rcases List.mem_append.1 hr with hr | hr
    · obtain ⟨d, hd, rfl⟩ := mem_stL.1 hr
      by_cases e : d = c
      · subst e; rw [hc]; exact Sp.zero _
      · exact .mem (mem_stL.2 ⟨d, hd, upd_other U x e⟩)
    · simp at hr
      subst hr
      exact .mem (mem_stL.2 ⟨c, hcn, upd_same U c r⟩))

/-- One row of gather: it hangs on those ahead .. -/
theorem gather_in {U : Nat → Vec} {n : Nat} {l : List Vec} {r : Vec} (he : SpEq (stL U n) l) (hx : Sp (stL U n) (vadd vzero r)) : Sp l r ∧ SpEq (stL U n) (l ++ [r]) := by
  have h1 : Sp l r := (he r).1 (by rw [vadd_comm, vadd_zero] at hx; exact hx)
  exact ⟨h1, he.trans (SpEq.snoc_in h1).symm⟩
/-- .. or brings a stair. -/
theorem gather_out {U : Nat → Vec} {n : Nat} {l : List Vec} {r x : Vec} {c : Nat} (h : Stair U n) (he : SpEq (stL U n) l) (hx : Sp (stL U n) (vadd x r)) (hc : U c = vzero) (hcn : c < n) (hl : Lead x c) :
    ¬ Sp l r ∧ SpEq (stL (upd U c x) n) (l ++ [r]) ∧ Stair (upd U c x) n := by
  refine ⟨fun hs => ?_, ?_, stair_upd h hl⟩
  · exact stair_new h hc hl (hx.of_add ((he r).2 hs))
  · refine (span_upd hcn hc).trans (SpEq.trans ?_ (he.snoc r))
    have hx1 : ∀ y, Sp (stL U n ++ [y]) (vadd x r) := fun y => hx.sub fun t ht => List.mem_append.2 (.inl ht)
    refine .of (fun s hs => ?_) (fun s hs => ?_)
    · rcases List.mem_append.1 hs with hs | hs
      · exact .mem (List.mem_append.2 (.inl hs))
      · simp at hs; subst hs; exact (hx1 r).of_add (.mem (by simp))
    · rcases List.mem_append.1 hs with hs | hs
      · exact .mem (List.mem_append.2 (.inl hs))
      · simp at hs
        subst hs
        have := hx1 x
        rw [vadd_comm] at this
        exact this.of_add (.mem (by simp))

/-! ### plain -/
structure PI (U T : Nat → Vec) (n a e : Nat) : Prop where
  nil : ∀ d, d < n → (U d = vzero ↔ T d = vzero)
  lead : ∀ d, d < n → U d = vzero ∨ Lead (U d) d
  old : ∀ d, d < a → U d = T d
  plain : ∀ d d', a < d → d < d' → d' < n → U d' ≠ vzero → U d d' = false
  row : ∀ d', a < d' → d' < e → d' < n → U d' ≠ vzero → U a d' = false
  span : SpEq (stL U n) (stL T n)

theorem PI.start {T : Nat → Vec} {n : Nat} (h : Stair T n) : PI T T n n n := ⟨fun _ _ => Iff.rfl, h, fun _ _ => rfl, fun _ _ _ _ h => by omega, fun _ _ _ h => by omega, SpEq.refl _⟩
/-- From the row a to the next one. -/
theorem PI.down {U T : Nat → Vec} {n a : Nat} (h : PI U T n (a + 1) n) : PI U T n a (a + 1) :=
  ⟨h.nil, h.lead, fun d hd => h.old d (by omega), fun d d' h1 h2 h3 h4 => by
    by_cases e : d = a + 1
    · subst e; exact h.row d' (by omega) h3 h3 h4
    · exact h.plain d d' (by omega) h2 h3 h4, fun d' h1 h2 => by omega, h.span⟩
theorem PI.gap {U T : Nat → Vec} {n a : Nat} (h : PI U T n a (a + 1)) (hz : U a = vzero) : PI U T n a n :=
  ⟨h.nil, h.lead, h.old, h.plain, fun d' _ _ _ _ => by rw [hz]; rfl, h.span⟩
theorem PI.keep {U T : Nat → Vec} {n a e : Nat} (h : PI U T n a e) (hz : U e = vzero ∨ U a e = false) : PI U T n a (e + 1) :=
  ⟨h.nil, h.lead, h.old, h.plain, fun d' h1 h2 h3 h4 => by
    by_cases he : d' = e
    · subst he
      rcases hz with hz | hz
      · exact absurd hz h4
      · exact hz
    · exact h.row d' h1 (by omega) h3 h4, h.span⟩
theorem PI.add {U T : Nat → Vec} {n a e : Nat} (h : PI U T n a e) (hae : a < e) (hen : e < n) (hz : U e ≠ vzero) (hb : U a e = true) : PI (upd U a (vadd (U a) (U e))) T n a (e + 1) := by
  have hne : e ≠ a := by omega
  have hU : U a ≠ vzero := by intro e0; rw [e0] at hb; cases hb
  have hLa := (h.lead a (by omega)).resolve_left hU
  have hLe := (h.lead e hen).resolve_left hz
  have hLn := hLa.add_lt hLe hae
  have hb2 : ∀ d, d ≠ a → upd U a (vadd (U a) (U e)) d = U d := fun d hd => upd_other U _ hd
  refine ⟨fun d hd => ?_, fun d hd => ?_, fun d hd => ?_, fun d d' h1 h2 h3 h4 => ?_, fun d' h1 h2 h3 h4 => ?_, ?_⟩
  · by_cases e1 : d = a
    · subst e1
      rw [upd_same]
      exact ⟨fun h0 => absurd h0 hLn.ne, fun h0 => absurd ((h.nil d hd).2 h0) hU⟩
    · rw [hb2 d e1]; exact h.nil d hd
  · by_cases e1 : d = a
    · subst e1; rw [upd_same]; exact .inr hLn
    · rw [hb2 d e1]; exact h.lead d hd
  · rw [hb2 d (by omega)]; exact h.old d hd
  · rw [hb2 d' (by omega)] at h4
    rw [hb2 d (by omega)]
    exact h.plain d d' h1 h2 h3 h4
  · rw [hb2 d' (by omega)] at h4
    rw [upd_same]
    by_cases e1 : d' = e
    · subst e1; simp only [vadd, hb, hLe.1]; rfl
    · simp only [vadd, h.row d' h1 (by omega) h3 h4, hLe.2 d' (by omega)]; rfl
  · refine SpEq.trans ?_ h.span
    have he : ∀ x, Sp (stL (upd U a x) n) (U e) := fun x => .mem (mem_stL.2 ⟨e, hen, upd_other U x hne⟩)
    refine .of (fun r hr => ?_) (fun r hr => ?_)
    · obtain ⟨d, hd, rfl⟩ := mem_stL.1 hr
      by_cases e1 : d = a
      · subst e1; rw [upd_same]; exact (Sp.mem (mem_stL.2 ⟨d, hd, rfl⟩)).add (.mem (mem_stL.2 ⟨e, hen, rfl⟩))
      · rw [hb2 d e1]; exact .mem (mem_stL.2 ⟨d, hd, rfl⟩)
    · obtain ⟨d, hd, rfl⟩ := mem_stL.1 hr
      by_cases e1 : d = a
      · subst e1
        have h1 : Sp (stL (upd U d (vadd (U d) (U e))) n) (vadd (U d) (U e)) := .mem (mem_stL.2 ⟨d, hd, upd_same U d _⟩)
        exact h1.of_add (he _)
      · exact .mem (mem_stL.2 ⟨d, hd, hb2 d e1⟩)

theorem PI.finish {U T : Nat → Vec} {n : Nat} (h : PI U T n 0 n) : PF (stNZ U n) ∧ SpEq (stNZ U n) (stL T n) := by
  refine ⟨⟨(stNZ_ech h.lead).1, ?_⟩, (stNZ_span U n).trans h.span⟩
  unfold stNZ
  rw [List.pairwise_map]
  refine List.Pairwise.imp_of_mem ?_ (List.Pairwise.filter _ (List.pairwise_lt_range (n := n)))
  intro a b ha hb hab c d h1 h2
  simp only [List.mem_filter, List.mem_range, decide_eq_true_eq] at ha hb
  have e1 := ((h.lead a ha.1).resolve_left ha.2).unique h1
  have e2 := ((h.lead b hb.1).resolve_left hb.2).unique h2
  subst e1 e2
  refine ⟨hab, ?_⟩
  by_cases ha0 : a = 0
  · subst ha0; exact h.row b hab hb.1 hb.1 hb.2
  · exact h.plain a b (by omega) hab hb.1 hb.2
end Go.Proofs.YteilneoamhnndaaDoor
end

section
/- math/bits: OnesCount64 by its own text. -/
namespace Go.Proofs.YteilneoamhnndaaDoor
open Go.RowKit Go.Extern.Stop Go.Stop Go.Extern

theorem and_lit (a c : Nat) (C : Int) (hC : C = (c : Int)) (ha : a < 18446744073709551616) (hc : c < 18446744073709551616) : bits .and .u64 (a : Int) C = ((a &&& c : Nat) : Int) := by
  rw [hC]; exact bits_and_u64_nat a c ha hc

theorem wrap_nat (a : Nat) (ha : a < 18446744073709551616) : IntKind.u64.wrap (a : Int) = (a : Int) := by rw [IntKind.wrap_u64]; omega

end Go.Proofs.YteilneoamhnndaaDoor
end

section
/- Packages packed and geyserref02, what tells a column and how many there are: Has, Count; the document's Has, Bit. -/
namespace Go.Proofs.YteilneoamhnndaaDoor
open Go.RowKit Go.Extern.Stop Go.Stop Go.Extern

def hasI (ws : List Nat) (c : Int) : Bool := if c < 0 then false else bitW ws c.toNat

theorem shr_nat (x b : Nat) : ((x : Int) / 2 ^ b) = ((x / 2 ^ b : Nat) : Int) := by simp

theorem shr_and_one (x b : Nat) (hx : x < 18446744073709551616) : (bits BinOp.and IntKind.u64 ((x : Int) / 2 ^ b) 1 == 1) = x.testBit b := by
  have hle : x / 2 ^ b ≤ x := Nat.div_le_self _ _
  rw [shr_nat, and_lit (x / 2 ^ b) 1 1 rfl (by omega) (by decide), Nat.and_one_is_mod, Nat.testBit_eq_decide_div_mod_eq]
  by_cases h : x / 2 ^ b % 2 = 1
  · rw [h]; rfl
  · rw [decide_eq_false h, show x / 2 ^ b % 2 = 0 by omega]; rfl

theorem shr_mod_two (x b : Nat) : ((x : Int) / 2 ^ b % 2 == 1) = x.testBit b := by
  rw [shr_nat, Nat.testBit_eq_decide_div_mod_eq]
  by_cases h : x / 2 ^ b % 2 = 1
  · rw [decide_eq_true h, show ((x / 2 ^ b : Nat) : Int) % 2 = 1 by omega]; rfl
  · rw [decide_eq_false h, show ((x / 2 ^ b : Nat) : Int) % 2 = 0 by omega]; rfl

end Go.Proofs.YteilneoamhnndaaDoor
end

section
/- geyserref02: In, Size (were in PkRead). -/
namespace Go.Proofs.YteilneoamhnndaaDoor
open Go.RowKit Go.Extern.Stop Go.Stop Go.Extern

def outI (l : List Int) (n : Int) : Bool := l.any fun c => decide (c < 0) || decide (n ≤ c)

def sizeI (n : Int) : Int := if n < 0 ∨ 4096 < n then 0 else (n + 63) / 64

theorem neqBool (p q r : Bool) (h : (p != q) = r) (w : World) : (binOp .neq 4 (.bool p) (.bool q)).run Tryd.prog w = .ok (.bool r) w := by
  subst h; cases p <;> cases q <;> kernel_rfl

end Go.Proofs.YteilneoamhnndaaDoor
end

section
/- Packages packed and geyserref02: the document's Pack and Check; packed.Pack, Xor, Odd. -/
namespace Go.Proofs.YteilneoamhnndaaDoor
open Go.RowKit Go.Extern.Stop Go.Stop Go.Extern

/-! ### the document's Pack -/
def inP (l : List Int) (c : Nat) : Bool := decide ((c : Int) ∈ l)
def packW (l : List Int) (k : Nat) : List Nat := (List.range k).map fun i => bitsDown (inP l) i 64
theorem packW_succ (l : List Int) (k : Nat) : packW l (k + 1) = packW l k ++ [bitsDown (inP l) k 64] := by unfold packW; rw [List.range_succ, List.map_append]; rfl
theorem packW_length (l : List Int) (k : Nat) : (packW l k).length = k := by simp [packW]
theorem sizeI_nat (n : Int) : ∃ k : Nat, sizeI n = (k : Int) ∧ k ≤ 64 := by
  unfold sizeI
  split
  · exact ⟨0, rfl, by omega⟩
  · exact ⟨((n + 63) / 64).toNat, by omega, by omega⟩

/-! ### the document's Check -/
def checkI (l : List Int) (n : Int) : Int := if n < 0 ∨ 4096 < n ∨ outI l n = true then 1 else if l.Nodup then 0 else 2

theorem nodup_snoc {α : Type} [DecidableEq α] (l : List α) (x : α) (h : l.Nodup) (hx : x ∉ l) : (l ++ [x]).Nodup := by
  unfold List.Nodup at *
  rw [List.pairwise_append]
  exact ⟨h, by simp, fun a ha b hb => by simp at hb; subst hb; intro e; exact hx (e ▸ ha)⟩
theorem not_nodup_of {l : List Int} {k : Nat} (hk : k < l.length) (h : l[k] ∈ l.take k) : ¬ l.Nodup := by
  intro hn
  have h2 : (l.take (k + 1)).Nodup := hn.sublist (List.take_sublist _ _)
  rw [List.take_succ_eq_append_getElem hk] at h2
  unfold List.Nodup at h2
  rw [List.pairwise_append] at h2
  exact h2.2.2 _ h _ (by simp) rfl

end Go.Proofs.YteilneoamhnndaaDoor
end

section
/- Rows of words and rows of truths as sets of columns, no program: what is whole, what is packed of truths; matrices. -/
namespace Go.Proofs.YteilneoamhnndaaDoor

theorem bitW_nil : bitW [] = vzero := funext fun c => by unfold bitW vzero; simp
theorem bitW_vadd {a b : List Nat} (h : a.length = b.length) : bitW (xorW a b) = vadd (bitW a) (bitW b) := funext fun c => bitW_xor h c
theorem firstCol_cases (ws : List Nat) : (firstCol ws = -1 ∧ bitW ws = vzero) ∨ ∃ c : Nat, firstCol ws = (c : Int) ∧ Lead (bitW ws) c ∧ c < 64 * ws.length := by
  cases h : (colsOf ws).head? with
  | none =>
    left
    refine ⟨by rw [firstCol, h]; rfl, ?_⟩
    rw [List.head?_eq_none_iff] at h
    funext c
    cases hb : bitW ws c with
    | false => rfl
    | true =>
      have := mem_colsOf.2 hb
      rw [h] at this
      simp at this
  | some c =>
    right
    refine ⟨c, by rw [firstCol, h]; rfl, ?_⟩
    unfold colsOf colsTo at h
    rw [List.head?_filter, List.find?_range_eq_some] at h
    obtain ⟨h1, h2, h3⟩ := h
    exact ⟨⟨h1, fun d hd => by simpa using h3 d hd⟩, List.mem_range.1 h2⟩

theorem words_of_bits {a b : List Nat} {k : Nat} (ha : Word a) (hb : Word b) (la : a.length = k) (lb : b.length = k) (h : bitW a = bitW b) : a = b :=
  Packs.unique (k := k) (p := bitW b) ⟨la, ha, fun c _ => by rw [h]⟩ ⟨lb, hb, fun _ _ => rfl⟩

theorem words_of_vecs {k : Nat} : ∀ {L M : List (List Nat)}, (∀ r ∈ L, Word r ∧ r.length = k) → (∀ r ∈ M, Word r ∧ r.length = k) → L.map bitW = M.map bitW → L = M
  | [], [], _, _, _ => rfl
  | [], _ :: _, _, _, h => by simp at h
  | _ :: _, [], _, _, h => by simp at h
  | a :: L, b :: M, h1, h2, h => by
    simp only [List.map_cons, List.cons.injEq] at h
    rw [words_of_bits (h1 a (by simp)).1 (h2 b (by simp)).1 (h1 a (by simp)).2 (h2 b (by simp)).2 h.1,
      words_of_vecs (fun r hr => h1 r (List.mem_cons_of_mem _ hr)) (fun r hr => h2 r (List.mem_cons_of_mem _ hr)) h.2]

/-! ### whole rows -/
def kOf (n : Nat) : Nat := (n + 63) / 64
theorem sizeI_of {n : Nat} (h : n ≤ 4096) : sizeI (n : Int) = (kOf n : Int) := by
  unfold sizeI kOf; rw [if_neg (by omega)]; omega
theorem kOf_le {n : Nat} (h : n ≤ 4096) : kOf n ≤ 64 := by unfold kOf; omega
def wholeB (n : Nat) (r : List Nat) : Bool := decide (r.length = kOf n) && (List.range (64 * r.length)).all fun c => decide (c < n) || !bitW r c
theorem wholeB_iff {n : Nat} {r : List Nat} : wholeB n r = true ↔ r.length = kOf n ∧ ∀ c, n ≤ c → bitW r c = false := by
  unfold wholeB
  rw [Bool.and_eq_true, decide_eq_true_eq, List.all_eq_true]
  constructor
  · rintro ⟨h1, h2⟩
    refine ⟨h1, fun c hc => ?_⟩
    by_cases hl : c < 64 * r.length
    · have := h2 c (List.mem_range.2 hl)
      simp only [Bool.or_eq_true, decide_eq_true_eq, Bool.not_eq_true'] at this
      exact this.resolve_left (by omega)
    · exact bitW_out _ _ (by omega)
  · rintro ⟨h1, h2⟩
    refine ⟨h1, fun c _ => ?_⟩
    by_cases hc : c < n
    · simp [hc]
    · simp [h2 c (by omega)]
theorem wholeB_len {n : Nat} {r : List Nat} (h : r.length ≠ kOf n) : wholeB n r = false := by
  cases hb : wholeB n r with
  | false => rfl
  | true => exact absurd (wholeB_iff.1 hb).1 h
theorem wholeB_bit {n c : Nat} {r : List Nat} (h : n ≤ c) (hb : bitW r c = true) : wholeB n r = false := by
  cases hw : wholeB n r with
  | false => rfl
  | true => rw [(wholeB_iff.1 hw).2 c h] at hb; cases hb

/-- The last word holds the columns that are too many. -/
theorem whole_last {n : Nat} {r : List Nat} (hw : Word r) (hl : r.length = kOf n) : wholeB n r = (decide (n % 64 = 0) || decide (r.getD (n / 64) 0 / 2 ^ (n % 64) = 0)) := by
  have hx : r.getD (n / 64) 0 < 2 ^ 64 := hw.getD _
  by_cases h0 : n % 64 = 0
  · have : wholeB n r = true := wholeB_iff.2 ⟨hl, fun c hc => bitW_out _ _ (by unfold kOf at hl; omega)⟩
    simp [this, h0]
  · by_cases h1 : r.getD (n / 64) 0 / 2 ^ (n % 64) = 0
    · have : wholeB n r = true := wholeB_iff.2 ⟨hl, fun c hc => by
        by_cases he : c / 64 = n / 64
        · unfold bitW
          rw [he]
          have hlt : r.getD (n / 64) 0 < 2 ^ (n % 64) := by
            apply Nat.lt_of_not_le
            intro hle
            have := Nat.div_pos hle (Nat.two_pow_pos _)
            omega
          exact Nat.testBit_lt_two_pow (Nat.lt_of_lt_of_le hlt (Nat.pow_le_pow_right (by decide) (by omega)))
        · exact bitW_out _ _ (by unfold kOf at hl; omega)⟩
      rw [this, decide_eq_true h1, Bool.or_true]
    · have : wholeB n r = false := by
        cases hb : wholeB n r with
        | false => rfl
        | true =>
          exfalso
          apply h1
          apply Nat.eq_of_testBit_eq
          intro j
          rw [Nat.testBit_div_two_pow, Nat.zero_testBit]
          by_cases hj : n % 64 + j < 64
          · have := (wholeB_iff.1 hb).2 (n + j) (by omega)
            unfold bitW at this
            rw [show (n + j) / 64 = n / 64 by omega, show (n + j) % 64 = n % 64 + j by omega] at this
            rw [Nat.add_comm]
            exact this
          · exact Nat.testBit_lt_two_pow (Nat.lt_of_lt_of_le hx (Nat.pow_le_pow_right (by decide) (by omega)))
      rw [this, decide_eq_false h0, decide_eq_false h1]; rfl

/-- The document's check of a matrix. -/
def checkM (L : List (List Nat)) (n : Int) : Int := if n < 0 ∨ 4096 < n then 1 else if 4096 < L.length then 3 else if L.all (wholeB n.toNat) then 0 else 2
structure MatOk (L : List (List Nat)) (n : Nat) : Prop where
  cols : n ≤ 4096
  rows : L.length ≤ 4096
  words : ∀ r ∈ L, Word r
  whole : ∀ r ∈ L, r.length = kOf n ∧ ∀ c, n ≤ c → bitW r c = false
theorem checkM_zero {L : List (List Nat)} {n : Int} (hw : ∀ r ∈ L, Word r) (h : checkM L n = 0) : ∃ m : Nat, n = (m : Int) ∧ MatOk L m := by
  unfold checkM at h
  split at h
  · cases h
  · split at h
    · cases h
    · split at h
      · rename_i h1 h2 h3
        refine ⟨n.toNat, by omega, ⟨by omega, by omega, hw, fun r hr => ?_⟩⟩
        rw [List.all_eq_true] at h3
        exact wholeB_iff.1 (h3 r hr)
      · cases h
theorem MatOk.check {L : List (List Nat)} {n : Nat} (h : MatOk L n) : checkM L (n : Int) = 0 := by
  unfold checkM
  have h1 := h.cols
  have h2 := h.rows
  rw [if_neg (by omega), if_neg (by omega), if_pos]
  rw [List.all_eq_true]
  intro r hr
  exact wholeB_iff.2 (h.whole r hr)
def vecs (L : List (List Nat)) : List Vec := L.map bitW
theorem vecs_length (L : List (List Nat)) : (vecs L).length = L.length := by simp [vecs]
theorem vecs_getD (L : List (List Nat)) (k : Nat) : (vecs L).getD k vzero = bitW (L.getD k []) := by
  unfold vecs
  simp only [List.getD_eq_getElem?_getD, List.getElem?_map]
  cases L[k]? with
  | none => exact bitW_nil.symm
  | some r => rfl
theorem vecs_take (L : List (List Nat)) (k : Nat) : vecs (L.take k) = (vecs L).take k := by unfold vecs; rw [List.map_take]
theorem vecs_append (L M : List (List Nat)) : vecs (L ++ M) = vecs L ++ vecs M := by unfold vecs; rw [List.map_append]
theorem getD_mem' {L : List (List Nat)} {k : Nat} (h : k < L.length) : L.getD k [] ∈ L := by
  rw [List.getD_eq_getElem?_getD, List.getElem?_eq_getElem h]; exact List.getElem_mem h
theorem MatOk.low {L : List (List Nat)} {n : Nat} (h : MatOk L n) : ∀ r ∈ vecs L, ∀ c, n ≤ c → r c = false := fun r hr c hc => by
  obtain ⟨s, hs, rfl⟩ := List.mem_map.1 hr
  exact (h.whole s hs).2 c hc
theorem MatOk.sub {L M : List (List Nat)} {n : Nat} (h : MatOk L n) (hm : ∀ r ∈ M, r ∈ L) (hl : M.length ≤ 4096) : MatOk M n :=
  ⟨h.cols, hl, fun r hr => h.words r (hm r hr), fun r hr => h.whole r (hm r hr)⟩

/-! ### truths -/
def bitB (b : List Bool) : Vec := fun c => b.getD c false
theorem bitB_nil : bitB [] = vzero := funext fun c => by simp [bitB, vzero]
def truthsB (ws : List Nat) (n : Nat) : List Bool := (List.range n).map (bitW ws)
theorem truthsB_length (ws : List Nat) (n : Nat) : (truthsB ws n).length = n := by simp [truthsB]
theorem range_getD {α : Type} (f : Nat → α) (n k : Nat) (d : α) : ((List.range n).map f).getD k d = if k < n then f k else d := by
  simp only [List.getD_eq_getElem?_getD, List.getElem?_map]
  by_cases h : k < n
  · simp [h]
  · simp [h]
theorem bitB_truths {ws : List Nat} {n : Nat} (h : ∀ c, n ≤ c → bitW ws c = false) : bitB (truthsB ws n) = bitW ws := by
  funext c
  unfold bitB truthsB
  rw [range_getD]
  by_cases hc : c < n
  · rw [if_pos hc]
  · rw [if_neg hc, h c (by omega)]
def sumB (a b : List Bool) : List Bool := (List.range a.length).map fun c => (bitB a c != bitB b c)
theorem sumB_length (a b : List Bool) : (sumB a b).length = a.length := by simp [sumB]
theorem bitB_out {b : List Bool} {c : Nat} (h : b.length ≤ c) : bitB b c = false := by
  unfold bitB; rw [List.getD_eq_getElem?_getD, List.getElem?_eq_none h]; rfl
theorem bitB_sum {a b : List Bool} (h : a.length = b.length) : bitB (sumB a b) = vadd (bitB a) (bitB b) := by
  funext c
  by_cases hc : c < a.length
  · show (sumB a b).getD c false = _
    unfold sumB vadd
    rw [range_getD, if_pos hc]
  · rw [bitB_out (by rw [sumB_length]; omega)]
    unfold vadd
    rw [bitB_out (by omega), bitB_out (by omega)]; rfl

/-- The columns of truths, and what is packed of them. -/
def colsB (b : List Bool) : List Nat := (List.range b.length).filter fun c => bitB b c
def colsBTo (b : List Bool) (k : Nat) : List Nat := (List.range k).filter fun c => bitB b c
theorem colsBTo_one {b : List Bool} {k : Nat} (h : bitB b k = true) : colsBTo b (k + 1) = colsBTo b k ++ [k] := by
  unfold colsBTo; rw [List.range_succ, List.filter_append]; simp [h]
theorem colsBTo_none {b : List Bool} {k : Nat} (h : bitB b k = false) : colsBTo b (k + 1) = colsBTo b k := by
  unfold colsBTo; rw [List.range_succ, List.filter_append]; simp [h]
theorem colsBTo_le (b : List Bool) (k : Nat) : (colsBTo b k).length ≤ k := by
  unfold colsBTo; exact Nat.le_trans (List.length_filter_le _ _) (by simp)
theorem packW_packs (l : List Int) (k : Nat) : Packs (packW l k) k (inP l) := by
  refine ⟨packW_length l k, fun x hx => ?_, fun c hc => ?_⟩
  · unfold packW at hx
    obtain ⟨i, _, rfl⟩ := List.mem_map.1 hx
    exact (bitsDown_spec (inP l) i 64 (Nat.le_refl _)).1
  · unfold bitW packW
    rw [range_getD, if_pos (by omega), (bitsDown_spec (inP l) (c / 64) 64 (Nat.le_refl _)).2 (c % 64) (by omega)]
    congr 1
    omega
def wordsB (b : List Bool) : List Nat := packW ((colsB b).map Int.ofNat) (kOf b.length)
theorem wordsB_spec (b : List Bool) : Word (wordsB b) ∧ (wordsB b).length = kOf b.length ∧ bitW (wordsB b) = bitB b := by
  obtain ⟨h1, h2, h3⟩ := packW_packs ((colsB b).map Int.ofNat) (kOf b.length)
  refine ⟨h2, h1, funext fun c => ?_⟩
  by_cases hc : c < 64 * kOf b.length
  · have := h3 c hc
    unfold wordsB
    rw [this]
    unfold inP
    cases hb : bitB b c with
    | true =>
      have hl : c < b.length := by
        apply Nat.lt_of_not_le
        intro hle
        rw [bitB_out hle] at hb
        cases hb
      apply decide_eq_true
      exact List.mem_map.2 ⟨c, by unfold colsB; simp [hl, hb], rfl⟩
    | false =>
      apply decide_eq_false
      intro hm
      obtain ⟨d, hd, e⟩ := List.mem_map.1 hm
      have : d = c := Int.ofNat.inj e
      subst this
      unfold colsB at hd
      simp [hb] at hd
  · rw [bitW_out _ _ (by unfold wordsB; rw [h1]; omega), bitB_out (by unfold kOf at hc; omega)]

def vecsB (R : List (List Bool)) : List Vec := R.map bitB
theorem vecsB_getD (R : List (List Bool)) (k : Nat) : (vecsB R).getD k vzero = bitB (R.getD k []) := by
  unfold vecsB
  simp only [List.getD_eq_getElem?_getD, List.getElem?_map]
  cases R[k]? with
  | none => exact bitB_nil.symm
  | some r => rfl
theorem vecsB_length (R : List (List Bool)) : (vecsB R).length = R.length := by simp [vecsB]
def allB (L : List (List Nat)) (n : Nat) : List (List Bool) := L.map fun r => truthsB r n
theorem vecsB_all {L : List (List Nat)} {n : Nat} (h : MatOk L n) : vecsB (allB L n) = vecs L := by
  unfold vecsB allB vecs
  rw [List.map_map]
  apply List.map_congr_left
  intro r hr
  exact bitB_truths (h.whole r hr).2
theorem vecs_words (R : List (List Bool)) : vecs (R.map wordsB) = vecsB R := by
  unfold vecs vecsB
  rw [List.map_map]
  apply List.map_congr_left
  intro r _
  exact (wordsB_spec r).2.2
end Go.Proofs.YteilneoamhnndaaDoor
end

section
/- Lists of rows in memory: as they are read (MatAt), as a call makes them (ElAt, MatOwn). -/
namespace Go.Proofs.YteilneoamhnndaaDoor
open Go.RowKit Go.Extern.Stop Go.Stop Go.Extern

def boolV (b : Bool) : Value := .bool b

theorem info_bool : (Tryd.prog.info? 4).map (fun i => (i.zero, i.size, i.bytes)) = some (some (.bool false), 1, 1) := by kernel_rfl





theorem MatAt.getD_words {w : World} {v : Value} {L : List (List Nat)} (_ : MatAt wordV w v L) (h : ∀ r ∈ L, Word r) (k : Nat) : Word (L.getD k []) := by
  by_cases hk : k < L.length
  · exact h _ (getD_mem' hk)
  · rw [List.getD_eq_getElem?_getD, List.getElem?_eq_none (by omega)]
    intro x hx
    simp at hx

end Go.Proofs.YteilneoamhnndaaDoor
end
