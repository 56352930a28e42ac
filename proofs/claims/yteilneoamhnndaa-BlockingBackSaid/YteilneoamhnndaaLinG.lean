/- Rows over two elements, no program: the elimination column by column; stairs, how a row is taken down by them, how they are made plain. -/
import Derived.Test.YteilneoamhnndaaLin
namespace Go.Proofs.Yteilneoamhnndaa

theorem mem_getD {R : List Vec} {r : Vec} : r ∈ R ↔ ∃ k, k < R.length ∧ R.getD k vzero = r := by
  rw [List.mem_iff_getElem]
  constructor
  · rintro ⟨k, hk, e⟩; exact ⟨k, hk, by simp [hk, e]⟩
  · rintro ⟨k, hk, e⟩; exact ⟨k, hk, by simpa [hk] using e⟩
theorem getD_mem {R : List Vec} {k : Nat} (h : k < R.length) : R.getD k vzero ∈ R := mem_getD.2 ⟨k, h, rfl⟩

/-! ### column by column -/
def swf (R : List Vec) (a b k : Nat) : Vec := if k = b then R.getD a vzero else if k = a then R.getD b vzero else R.getD k vzero
def clf (q : Nat → Vec) (a c k : Nat) : Vec := if k ≠ a ∧ q k c = true then vadd (q k) (q a) else q k

structure GI (R : List Vec) (done c : Nat) (p : Nat → Nat) : Prop where
  le : done ≤ R.length
  lead : ∀ j, j < done → Lead (R.getD j vzero) (p j) ∧ p j < c
  rise : ∀ j k, j < k → k < done → p j < p k
  one : ∀ j k, j < done → k < R.length → k ≠ j → R.getD k vzero (p j) = false
  low : ∀ k, done ≤ k → k < R.length → ∀ d, d < c → R.getD k vzero d = false

theorem GI.start (R : List Vec) (p : Nat → Nat) : GI R 0 0 p := ⟨Nat.zero_le _, fun _ h => by omega, fun _ _ _ h => by omega, fun _ _ h => by omega, fun _ _ _ _ h => by omega⟩

theorem GI.skip {R : List Vec} {done c : Nat} {p : Nat → Nat} (h : GI R done c p) (hn : ∀ k, done ≤ k → k < R.length → R.getD k vzero c = false) : GI R done (c + 1) p :=
  ⟨h.le, fun j hj => ⟨(h.lead j hj).1, by have := (h.lead j hj).2; omega⟩, h.rise, h.one, fun k h1 h2 d hd => by
    by_cases e : d = c
    · subst e; exact hn k h1 h2
    · exact h.low k h1 h2 d (by omega)⟩

section
variable {R R' : List Vec} {done c i : Nat} {p : Nat → Nat}

theorem swf_done (R : List Vec) (done i : Nat) : swf R done i done = R.getD i vzero := by
  unfold swf
  by_cases e : done = i
  · subst e; simp
  · rw [if_neg e, if_pos rfl]
theorem swf_lt (R : List Vec) {done i k : Nat} (hi : done ≤ i) (hk : k < done) : swf R done i k = R.getD k vzero := by
  unfold swf; rw [if_neg (by omega), if_neg (by omega)]
theorem swf_ge (R : List Vec) {done i k : Nat} (hi : done ≤ i) (hil : i < R.length) (hk : done ≤ k) (hkl : k < R.length) : ∃ k', done ≤ k' ∧ k' < R.length ∧ swf R done i k = R.getD k' vzero := by
  unfold swf
  by_cases e : k = i
  · exact ⟨done, Nat.le_refl _, by omega, by rw [if_pos e]⟩
  · by_cases e2 : k = done
    · exact ⟨i, hi, hil, by rw [if_neg e, if_pos e2]⟩
    · exact ⟨k, hk, hkl, by rw [if_neg e, if_neg e2]⟩
theorem clf_at (q : Nat → Vec) (a c : Nat) : clf q a c a = q a := by unfold clf; rw [if_neg (by simp)]
theorem clf_cases (q : Nat → Vec) (a c k : Nat) : (clf q a c k = q k) ∨ (clf q a c k = vadd (q k) (q a)) := by
  unfold clf; split
  · exact .inr rfl
  · exact .inl rfl
theorem clf_col (q : Nat → Vec) (a c k : Nat) (hk : k ≠ a) (ha : q a c = true) : clf q a c k c = false := by
  unfold clf
  by_cases h : q k c = true
  · rw [if_pos ⟨hk, h⟩]; simp only [vadd, h, ha]; rfl
  · rw [if_neg (fun h' => h h'.2)]; simpa using h
theorem clf_low (q : Nat → Vec) (a c k d : Nat) (h1 : q k d = false) (h2 : q a d = false) : clf q a c k d = false := by
  rcases clf_cases q a c k with e | e <;> rw [e]
  · exact h1
  · simp only [vadd, h1, h2]; rfl

theorem GI.step (h : GI R done c p) (hi : done ≤ i) (hil : i < R.length) (hc : R.getD i vzero c = true) (hlen : R'.length = R.length)
    (hR : ∀ k, k < R.length → R'.getD k vzero = clf (swf R done i) done c k) : GI R' (done + 1) (c + 1) (fun j => if j = done then c else p j) := by
  have hdl : done < R.length := by omega
  have hP : Lead (swf R done i done) c := by
    rw [swf_done]
    exact ⟨hc, fun d hd => h.low i hi hil d hd⟩
  have hPd : ∀ j, j < done → swf R done i done (p j) = false := fun j hj => hP.2 _ (h.lead j hj).2
  have hge : ∀ k, done ≤ k → k < R.length → ∀ d, d < c → swf R done i k d = false := fun k h1 h2 d hd => by
    obtain ⟨k', a, b, e⟩ := swf_ge R hi hil h1 h2
    rw [e]; exact h.low k' a b d hd
  refine ⟨by omega, fun j hj => ?_, fun j k hjk hk => ?_, fun j k hj hk hkj => ?_, fun k hk hkl d hd => ?_⟩
  · by_cases e : j = done
    · subst e
      rw [if_pos rfl, hR j hdl, clf_at]
      exact ⟨hP, by omega⟩
    · have hj' : j < done := by omega
      rw [if_neg e, hR j (by omega)]
      obtain ⟨h1, h2⟩ := h.lead j hj'
      refine ⟨?_, by omega⟩
      rcases clf_cases (swf R done i) done c j with e' | e' <;> rw [e']
      · rw [swf_lt R hi hj']; exact h1
      · rw [swf_lt R hi hj']; exact h1.add_lt hP h2
  · have hjd : j < done := by omega
    rw [if_neg (show ¬ j = done by omega)]
    by_cases e : k = done
    · rw [if_pos e]; exact (h.lead j hjd).2
    · rw [if_neg e]; exact h.rise j k hjk (by omega)
  · rw [hlen] at hk
    rw [hR k hk]
    by_cases e : j = done
    · subst e
      rw [if_pos rfl]
      exact clf_col _ _ _ _ hkj hP.1
    · have hj' : j < done := by omega
      rw [if_neg e]
      refine clf_low _ _ _ _ _ ?_ (hPd j hj')
      by_cases hkd : k < done
      · rw [swf_lt R hi hkd]; exact h.one j k hj' hk hkj
      · obtain ⟨k', a, b, e'⟩ := swf_ge R hi hil (by omega) hk
        rw [e']
        exact h.one j k' hj' b (by omega)
  · rw [hlen] at hkl
    rw [hR k hkl]
    by_cases e : d = c
    · subst e; exact clf_col _ _ _ _ (by omega) hP.1
    · exact clf_low _ _ _ _ _ (hge k (by omega) hkl d (by omega)) (hge done (Nat.le_refl _) hdl d (by omega))

theorem gauss_span (hi : done ≤ i) (hil : i < R.length) (hlen : R'.length = R.length) (hR : ∀ k, k < R.length → R'.getD k vzero = clf (swf R done i) done c k) : SpEq R' R := by
  have hdl : done < R.length := by omega
  have hq : ∀ k, k < R.length → swf R done i k ∈ R := fun k hk => by
    unfold swf
    split
    · exact getD_mem hdl
    · split
      · exact getD_mem hil
      · exact getD_mem hk
  have hd : Sp R' (swf R done i done) := by
    refine .mem (mem_getD.2 ⟨done, by omega, ?_⟩)
    rw [hR done hdl, clf_at]
  have hq2 : ∀ k, k < R.length → Sp R' (swf R done i k) := fun k hk => by
    have h1 : Sp R' (R'.getD k vzero) := .mem (getD_mem (by omega))
    rw [hR k hk] at h1
    rcases clf_cases (swf R done i) done c k with e | e <;> rw [e] at h1
    · exact h1
    · exact h1.of_add hd
  refine .of (fun r hr => ?_) (fun r hr => ?_)
  · obtain ⟨k, hk, rfl⟩ := mem_getD.1 hr
    rw [hlen] at hk
    rw [hR k hk]
    rcases clf_cases (swf R done i) done c k with e | e <;> rw [e]
    · exact .mem (hq k hk)
    · exact (Sp.mem (hq k hk)).add (.mem (hq done hdl))
  · obtain ⟨k, hk, rfl⟩ := mem_getD.1 hr
    by_cases e1 : k = done
    · subst e1
      have := hq2 i hil
      unfold swf at this
      rwa [if_pos rfl] at this
    · by_cases e2 : k = i
      · subst e2
        have := hq2 done hdl
        rwa [swf_done] at this
      · have := hq2 k hk
        unfold swf at this
        rwa [if_neg e2, if_neg e1] at this

theorem GI.finish {n : Nat} (h : GI R done n p) (hn : ∀ r ∈ R, ∀ c, n ≤ c → r c = false) : PF (R.take done) ∧ SpEq (R.take done) R := by
  have hle := h.le
  have hg : ∀ j (hj : j < (R.take done).length), (R.take done)[j] = R.getD j vzero := fun j hj => by
    rw [List.length_take] at hj
    have : j < R.length := by omega
    simp [this]
  have hlt : (R.take done).length = done := by rw [List.length_take]; omega
  refine ⟨⟨fun r hr => ?_, ?_⟩, .of (fun r hr => .mem (List.mem_of_mem_take hr)) (fun r hr => ?_)⟩
  · obtain ⟨j, hj, rfl⟩ := List.mem_iff_getElem.1 hr
    rw [hg j hj]
    exact ⟨_, (h.lead j (by omega)).1⟩
  · rw [List.pairwise_iff_getElem]
    intro j k hj hk hjk c d h1 h2
    rw [hg j hj] at h1 ⊢
    rw [hg k hk] at h2
    have e1 := h1.unique (h.lead j (by omega)).1
    have e2 := h2.unique (h.lead k (by omega)).1
    subst e1 e2
    exact ⟨h.rise j k hjk (by omega), h.one k j (by omega) (by omega) (by omega)⟩
  · obtain ⟨k, hk, rfl⟩ := mem_getD.1 hr
    by_cases hkd : k < done
    · refine .mem (List.mem_iff_getElem.2 ⟨k, by omega, hg k (by omega)⟩)
    · have : R.getD k vzero = vzero := by
        funext d
        by_cases hd : d < n
        · exact h.low k (by omega) hk d hd
        · exact hn _ hr d (by omega)
      rw [this]
      exact Sp.zero _
end

/-! ### stairs -/
def stL (U : Nat → Vec) (n : Nat) : List Vec := (List.range n).map U
theorem mem_stL {U : Nat → Vec} {n : Nat} {r : Vec} : r ∈ stL U n ↔ ∃ c, c < n ∧ U c = r := by
  unfold stL
  rw [List.mem_map]
  constructor
  · rintro ⟨c, hc, e⟩; exact ⟨c, List.mem_range.1 hc, e⟩
  · rintro ⟨c, hc, e⟩; exact ⟨c, List.mem_range.2 hc, e⟩
def upd (U : Nat → Vec) (a : Nat) (x : Vec) : Nat → Vec := fun d => if d = a then x else U d
theorem upd_same (U : Nat → Vec) (a : Nat) (x : Vec) : upd U a x a = x := if_pos rfl
theorem upd_other (U : Nat → Vec) {a d : Nat} (x : Vec) (h : d ≠ a) : upd U a x d = U d := if_neg h

def Stair (U : Nat → Vec) (n : Nat) : Prop := ∀ c, c < n → U c = vzero ∨ Lead (U c) c
open Classical in
/-- The stairs that are there, in order. -/
noncomputable def stNZ (U : Nat → Vec) (n : Nat) : List Vec := ((List.range n).filter fun c => decide (U c ≠ vzero)).map U
theorem mem_stNZ {U : Nat → Vec} {n : Nat} {r : Vec} : r ∈ stNZ U n ↔ ∃ c, c < n ∧ U c ≠ vzero ∧ U c = r := by
  unfold stNZ
  simp only [List.mem_map, List.mem_filter, List.mem_range, decide_eq_true_eq, and_assoc]
theorem stNZ_span (U : Nat → Vec) (n : Nat) : SpEq (stNZ U n) (stL U n) := .of
  (fun r hr => by obtain ⟨c, hc, _, e⟩ := mem_stNZ.1 hr; exact .mem (mem_stL.2 ⟨c, hc, e⟩))
  (fun r hr => by
    obtain ⟨c, hc, e⟩ := mem_stL.1 hr
    by_cases hz : U c = vzero
    · rw [← e, hz]; exact Sp.zero _
    · exact .mem (mem_stNZ.2 ⟨c, hc, hz, e⟩))

theorem stNZ_ech {U : Nat → Vec} {n : Nat} (h : Stair U n) : Ech (stNZ U n) := by
  refine ⟨fun r hr => ?_, ?_⟩
  · obtain ⟨c, hc, hz, rfl⟩ := mem_stNZ.1 hr
    exact ⟨c, (h c hc).resolve_left hz⟩
  · unfold stNZ
    rw [List.pairwise_map]
    refine List.Pairwise.imp_of_mem ?_ (List.Pairwise.filter _ (List.pairwise_lt_range (n := n)))
    intro a b ha hb hab c h1 h2
    simp only [List.mem_filter, List.mem_range, decide_eq_true_eq] at ha hb
    have e1 := ((h a ha.1).resolve_left ha.2).unique h1
    have e2 := ((h b hb.1).resolve_left hb.2).unique h2
    omega

/-- A row that was taken down to a column where no stair is. -/
theorem stair_new {U : Nat → Vec} {n : Nat} (h : Stair U n) {x : Vec} {c : Nat} (hc : U c = vzero) (hx : Lead x c) : ¬ Sp (stL U n) x := fun hs => by
  refine ech_new (stNZ_ech h) hx (fun s hs hl => ?_) ((stNZ_span U n x).2 hs)
  obtain ⟨d, hd, hz, rfl⟩ := mem_stNZ.1 hs
  have := ((h d hd).resolve_left hz).unique hl
  subst this
  exact hz hc

theorem stair_upd {U : Nat → Vec} {n : Nat} (h : Stair U n) {x : Vec} {c : Nat} (hx : Lead x c) : Stair (upd U c x) n := fun d hd => by
  by_cases e : d = c
  · subst e; rw [upd_same]; exact .inr hx
  · rw [upd_other U x e]; exact h d hd

theorem span_upd {U : Nat → Vec} {n : Nat} {x : Vec} {c : Nat} (hcn : c < n) (hc : U c = vzero) : SpEq (stL (upd U c x) n) (stL U n ++ [x]) := .of
  (fun r hr => by
    obtain ⟨d, hd, rfl⟩ := mem_stL.1 hr
    by_cases e : d = c
    · subst e; rw [upd_same]; exact .mem (by simp)
    · rw [upd_other U x e]; exact .mem (List.mem_append.2 (.inl (mem_stL.2 ⟨d, hd, rfl⟩))))
  (fun r hr => by
    rcases List.mem_append.1 hr with hr | hr
    · obtain ⟨d, hd, rfl⟩ := mem_stL.1 hr
      by_cases e : d = c
      · subst e; rw [hc]; exact Sp.zero _
      · exact .mem (mem_stL.2 ⟨d, hd, upd_other U x e⟩)
    · simp at hr
      subst hr
      exact .mem (mem_stL.2 ⟨c, hcn, upd_same U c r⟩))

/-- One row of gather: it hangs on those ahead .. -/
theorem gather_in {U : Nat → Vec} {n : Nat} {l : List Vec} {r : Vec} (he : SpEq (stL U n) l) (hx : Sp (stL U n) (vadd vzero r)) : Sp l r ∧ SpEq (stL U n) (l ++ [r]) := by
  have h1 : Sp l r := (he r).1 (by rw [vadd_comm, vadd_zero] at hx; exact hx)
  exact ⟨h1, he.trans (SpEq.snoc_in h1).symm⟩
/-- .. or brings a stair. -/
theorem gather_out {U : Nat → Vec} {n : Nat} {l : List Vec} {r x : Vec} {c : Nat} (h : Stair U n) (he : SpEq (stL U n) l) (hx : Sp (stL U n) (vadd x r)) (hc : U c = vzero) (hcn : c < n) (hl : Lead x c) :
    ¬ Sp l r ∧ SpEq (stL (upd U c x) n) (l ++ [r]) ∧ Stair (upd U c x) n := by
  refine ⟨fun hs => ?_, ?_, stair_upd h hl⟩
  · exact stair_new h hc hl (hx.of_add ((he r).2 hs))
  · refine (span_upd hcn hc).trans (SpEq.trans ?_ (he.snoc r))
    have hx1 : ∀ y, Sp (stL U n ++ [y]) (vadd x r) := fun y => hx.sub fun t ht => List.mem_append.2 (.inl ht)
    refine .of (fun s hs => ?_) (fun s hs => ?_)
    · rcases List.mem_append.1 hs with hs | hs
      · exact .mem (List.mem_append.2 (.inl hs))
      · simp at hs; subst hs; exact (hx1 r).of_add (.mem (by simp))
    · rcases List.mem_append.1 hs with hs | hs
      · exact .mem (List.mem_append.2 (.inl hs))
      · simp at hs
        subst hs
        have := hx1 x
        rw [vadd_comm] at this
        exact this.of_add (.mem (by simp))

/-! ### plain -/
structure PI (U T : Nat → Vec) (n a e : Nat) : Prop where
  nil : ∀ d, d < n → (U d = vzero ↔ T d = vzero)
  lead : ∀ d, d < n → U d = vzero ∨ Lead (U d) d
  old : ∀ d, d < a → U d = T d
  plain : ∀ d d', a < d → d < d' → d' < n → U d' ≠ vzero → U d d' = false
  row : ∀ d', a < d' → d' < e → d' < n → U d' ≠ vzero → U a d' = false
  span : SpEq (stL U n) (stL T n)

theorem PI.start {T : Nat → Vec} {n : Nat} (h : Stair T n) : PI T T n n n := ⟨fun _ _ => Iff.rfl, h, fun _ _ => rfl, fun _ _ _ _ h => by omega, fun _ _ _ h => by omega, SpEq.refl _⟩
/-- From the row a to the next one. -/
theorem PI.down {U T : Nat → Vec} {n a : Nat} (h : PI U T n (a + 1) n) : PI U T n a (a + 1) :=
  ⟨h.nil, h.lead, fun d hd => h.old d (by omega), fun d d' h1 h2 h3 h4 => by
    by_cases e : d = a + 1
    · subst e; exact h.row d' (by omega) h3 h3 h4
    · exact h.plain d d' (by omega) h2 h3 h4, fun d' h1 h2 => by omega, h.span⟩
theorem PI.gap {U T : Nat → Vec} {n a : Nat} (h : PI U T n a (a + 1)) (hz : U a = vzero) : PI U T n a n :=
  ⟨h.nil, h.lead, h.old, h.plain, fun d' _ _ _ _ => by rw [hz]; rfl, h.span⟩
theorem PI.keep {U T : Nat → Vec} {n a e : Nat} (h : PI U T n a e) (hz : U e = vzero ∨ U a e = false) : PI U T n a (e + 1) :=
  ⟨h.nil, h.lead, h.old, h.plain, fun d' h1 h2 h3 h4 => by
    by_cases he : d' = e
    · subst he
      rcases hz with hz | hz
      · exact absurd hz h4
      · exact hz
    · exact h.row d' h1 (by omega) h3 h4, h.span⟩
theorem PI.add {U T : Nat → Vec} {n a e : Nat} (h : PI U T n a e) (hae : a < e) (hen : e < n) (hz : U e ≠ vzero) (hb : U a e = true) : PI (upd U a (vadd (U a) (U e))) T n a (e + 1) := by
  have hne : e ≠ a := by omega
  have hU : U a ≠ vzero := by intro e0; rw [e0] at hb; cases hb
  have hLa := (h.lead a (by omega)).resolve_left hU
  have hLe := (h.lead e hen).resolve_left hz
  have hLn := hLa.add_lt hLe hae
  have hb2 : ∀ d, d ≠ a → upd U a (vadd (U a) (U e)) d = U d := fun d hd => upd_other U _ hd
  refine ⟨fun d hd => ?_, fun d hd => ?_, fun d hd => ?_, fun d d' h1 h2 h3 h4 => ?_, fun d' h1 h2 h3 h4 => ?_, ?_⟩
  · by_cases e1 : d = a
    · subst e1
      rw [upd_same]
      exact ⟨fun h0 => absurd h0 hLn.ne, fun h0 => absurd ((h.nil d hd).2 h0) hU⟩
    · rw [hb2 d e1]; exact h.nil d hd
  · by_cases e1 : d = a
    · subst e1; rw [upd_same]; exact .inr hLn
    · rw [hb2 d e1]; exact h.lead d hd
  · rw [hb2 d (by omega)]; exact h.old d hd
  · rw [hb2 d' (by omega)] at h4
    rw [hb2 d (by omega)]
    exact h.plain d d' h1 h2 h3 h4
  · rw [hb2 d' (by omega)] at h4
    rw [upd_same]
    by_cases e1 : d' = e
    · subst e1; simp only [vadd, hb, hLe.1]; rfl
    · simp only [vadd, h.row d' h1 (by omega) h3 h4, hLe.2 d' (by omega)]; rfl
  · refine SpEq.trans ?_ h.span
    have he : ∀ x, Sp (stL (upd U a x) n) (U e) := fun x => .mem (mem_stL.2 ⟨e, hen, upd_other U x hne⟩)
    refine .of (fun r hr => ?_) (fun r hr => ?_)
    · obtain ⟨d, hd, rfl⟩ := mem_stL.1 hr
      by_cases e1 : d = a
      · subst e1; rw [upd_same]; exact (Sp.mem (mem_stL.2 ⟨d, hd, rfl⟩)).add (.mem (mem_stL.2 ⟨e, hen, rfl⟩))
      · rw [hb2 d e1]; exact .mem (mem_stL.2 ⟨d, hd, rfl⟩)
    · obtain ⟨d, hd, rfl⟩ := mem_stL.1 hr
      by_cases e1 : d = a
      · subst e1
        have h1 : Sp (stL (upd U d (vadd (U d) (U e))) n) (vadd (U d) (U e)) := .mem (mem_stL.2 ⟨d, hd, upd_same U d _⟩)
        exact h1.of_add (he _)
      · exact .mem (mem_stL.2 ⟨d, hd, hb2 d e1⟩)

theorem PI.finish {U T : Nat → Vec} {n : Nat} (h : PI U T n 0 n) : PF (stNZ U n) ∧ SpEq (stNZ U n) (stL T n) := by
  refine ⟨⟨(stNZ_ech h.lead).1, ?_⟩, (stNZ_span U n).trans h.span⟩
  unfold stNZ
  rw [List.pairwise_map]
  refine List.Pairwise.imp_of_mem ?_ (List.Pairwise.filter _ (List.pairwise_lt_range (n := n)))
  intro a b ha hb hab c d h1 h2
  simp only [List.mem_filter, List.mem_range, decide_eq_true_eq] at ha hb
  have e1 := ((h.lead a ha.1).resolve_left ha.2).unique h1
  have e2 := ((h.lead b hb.1).resolve_left hb.2).unique h2
  subst e1 e2
  refine ⟨hab, ?_⟩
  by_cases ha0 : a = 0
  · subst ha0; exact h.row b hab hb.1 hb.1 hb.2
  · exact h.plain a b (by omega) hab hb.1 hb.2
end Go.Proofs.Yteilneoamhnndaa
