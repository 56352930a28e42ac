import Derived.Test.YtkhdjjcflbdegaaGreatDoorChecked
import Derived.WalkKit
import Derived.ProofKit
import Derived.OpenShut
import Derived.Lib.Hide
import Derived.Laws.AppendOwn
import Derived.Laws.OwnMore
import Derived.Laws.MakeOwn
import Derived.Test.YtkhdjjcflbdegaaGreatDoorG03
import Derived.Laws.Bits128
import Derived.Test.YtkhdjjcflbdegaaGreatDoorG04

section
/- Slices whose elements are one cell each, read as a list: what is kept, what a row of the call's own gives; numbers and words as elements. -/
namespace Go.Proofs.YtkhdjjcflbdegaaGreatDoor
open Go.RowKit Go.Extern.Stop Go.Stop Go.Extern

def intV (n : Int) : Value := .int .i64 n
def wordV (x : Nat) : Value := .int .u64 (x : Int)

/-- A slice value that reads as the list l. -/
def ListAt {α : Type} (f : α → Value) (w : World) (v : Value) (l : List α) : Prop :=
  ∃ a cap, v = .slice a l.length cap ∧ l.length ≤ cap ∧ cap ≤ maxLen ∧ (0 < l.length → ∃ b off, a = some ⟨b, off, none⟩ ∧ ∀ j (h : j < l.length), w.cell? ⟨b, off + j, none⟩ = some (f l[j]))

theorem ListAt.mono {α : Type} {f : α → Value} {w w' : World} {v : Value} {l : List α} (h : ListAt f w v l) (hb : Below w.heap.size w w') : ListAt f w' v l := by
  obtain ⟨a, cap, rfl, hc, hm, h⟩ := h
  refine ⟨a, cap, rfl, hc, hm, fun hp => ?_⟩
  obtain ⟨b, off, rfl, hcell⟩ := h hp
  refine ⟨b, off, rfl, fun j hj => ?_⟩
  have hx := hcell j hj
  rw [hb.cell (p := ⟨b, off + j, none⟩) (World.block_lt_of_cell? w _ hx)]
  exact hx

theorem ListAt.len {α : Type} {f : α → Value} {w : World} {v : Value} {l : List α} (h : ListAt f w v l) : l.length ≤ 9223372036854775807 := by
  obtain ⟨a, cap, rfl, hc, hm, _⟩ := h
  unfold maxLen at hm
  omega

theorem ListAt.nil {α : Type} (f : α → Value) (w : World) : ListAt f w (.slice none 0 0) [] := ⟨none, 0, rfl, Nat.le_refl _, Nat.zero_le _, fun h => by simp at h⟩

theorem ListAt.of_owns {α : Type} {f : α → Value} {w : World} {base n : Nat} {e : TypeId} {v : Value} {l : List α} (h : w.ownsRow base e 1 v n (l.map f)) : ListAt f w v l := by
  have hl := h.1
  simp at hl
  subst hl
  rcases h.2 with ⟨rfl, h0⟩ | ⟨g, cap, cur, rfl, hbg, hh, hc, hm, hs, htk⟩
  · exact ⟨none, 0, by rw [h0], by omega, Nat.zero_le _, fun hp => by omega⟩
  · refine ⟨_, _, rfl, hc, hm, fun hp => ⟨g, 0, rfl, fun j hj => ?_⟩⟩
    rw [World.ownsRow.cellAt h (0 + j) (by omega)]
    simp [hj]

/-- What the call owns stays owned where nothing old has turned. -/
theorem owns_kept {w w' : World} {base : Nat} {e : TypeId} {size : Nat} {v : Value} {n : Nat} {xs : List Value} (h : w.ownsRow base e size v n xs) (hb : Below w.heap.size w w') : w'.ownsRow base e size v n xs := by
  refine ⟨h.1, ?_⟩
  rcases h.2 with hn | ⟨g, cap, cur, rfl, hbg, hgg, rest⟩
  · exact .inl hn
  · exact .inr ⟨g, cap, cur, rfl, hbg, by rw [hb.block g (Array.getElem?_eq_some_iff.1 hgg).1]; exact hgg, rest⟩

theorem info_u64 : (Tryz.prog.info? 163).map (fun i => (i.zero, i.size, i.bytes)) = some (some (.int .u64 0), 1, 8) := by kernel_rfl
theorem info_int : (Tryz.prog.info? 3).map (fun i => (i.zero, i.size, i.bytes)) = some (some (.int .i64 0), 1, 8) := by kernel_rfl
end Go.Proofs.YtkhdjjcflbdegaaGreatDoor
end

section
/- Rows over two elements, no program: the elimination column by column; stairs, how a row is taken down by them, how they are made plain. -/
namespace Go.Proofs.YtkhdjjcflbdegaaGreatDoor

theorem mem_getD {R : List Vec} {r : Vec} : r ∈ R ↔ ∃ k, k < R.length ∧ R.getD k vzero = r := by
  rw [List.mem_iff_getElem]
  constructor
  · rintro ⟨k, hk, e⟩; exact ⟨k, hk, by simp [hk, e]⟩
  · rintro ⟨k, hk, e⟩; exact ⟨k, hk, by simpa [hk] using e⟩
theorem getD_mem {R : List Vec} {k : Nat} (h : k < R.length) : R.getD k vzero ∈ R := mem_getD.2 ⟨k, h, rfl⟩

/-! ### column by column -/
def swf (R : List Vec) (a b k : Nat) : Vec := if k = b then R.getD a vzero else if k = a then R.getD b vzero else R.getD k vzero
def clf (q : Nat → Vec) (a c k : Nat) : Vec := if k ≠ a ∧ q k c = true then vadd (q k) (q a) else q k

structure GI (R : List Vec) (done c : Nat) (p : Nat → Nat) : Prop where
  le : done ≤ R.length
  lead : ∀ j, j < done → Lead (R.getD j vzero) (p j) ∧ p j < c
  rise : ∀ j k, j < k → k < done → p j < p k
  one : ∀ j k, j < done → k < R.length → k ≠ j → R.getD k vzero (p j) = false
  low : ∀ k, done ≤ k → k < R.length → ∀ d, d < c → R.getD k vzero d = false

theorem GI.start (R : List Vec) (p : Nat → Nat) : GI R 0 0 p := ⟨Nat.zero_le _, fun _ h => by omega, fun _ _ _ h => by omega, fun _ _ h => by omega, fun _ _ _ _ h => by omega⟩

theorem GI.skip {R : List Vec} {done c : Nat} {p : Nat → Nat} (h : GI R done c p) (hn : ∀ k, done ≤ k → k < R.length → R.getD k vzero c = false) : GI R done (c + 1) p :=
  ⟨h.le, fun j hj => ⟨(h.lead j hj).1, by have := (h.lead j hj).2; omega⟩, h.rise, h.one, fun k h1 h2 d hd => by
    by_cases e : d = c
    · subst e; exact hn k h1 h2
    · exact h.low k h1 h2 d (by omega)⟩

section
variable {R R' : List Vec} {done c i : Nat} {p : Nat → Nat}

theorem swf_done (R : List Vec) (done i : Nat) : swf R done i done = R.getD i vzero := by
  unfold swf
  by_cases e : done = i
  · subst e; simp
  · rw [if_neg e, if_pos rfl]
theorem swf_lt (R : List Vec) {done i k : Nat} (hi : done ≤ i) (hk : k < done) : swf R done i k = R.getD k vzero := by
  unfold swf; rw [if_neg (by omega), if_neg (by omega)]
theorem swf_ge (R : List Vec) {done i k : Nat} (hi : done ≤ i) (hil : i < R.length) (hk : done ≤ k) (hkl : k < R.length) : ∃ k', done ≤ k' ∧ k' < R.length ∧ swf R done i k = R.getD k' vzero := by
  unfold swf
  by_cases e : k = i
  · exact ⟨done, Nat.le_refl _, by omega, by rw [if_pos e]⟩
  · by_cases e2 : k = done
    · exact ⟨i, hi, hil, by rw [if_neg e, if_pos e2]⟩
    · exact ⟨k, hk, hkl, by rw [if_neg e, if_neg e2]⟩
theorem clf_at (q : Nat → Vec) (a c : Nat) : clf q a c a = q a := by unfold clf; rw [if_neg (by simp)]
theorem clf_cases (q : Nat → Vec) (a c k : Nat) : (clf q a c k = q k) ∨ (clf q a c k = vadd (q k) (q a)) := by
  unfold clf; split
  · exact .inr rfl
  · exact .inl rfl
theorem clf_col (q : Nat → Vec) (a c k : Nat) (hk : k ≠ a) (ha : q a c = true) : clf q a c k c = false := by
  unfold clf
  by_cases h : q k c = true
  · rw [if_pos ⟨hk, h⟩]; simp only [vadd, h, ha]; rfl
  · rw [if_neg (fun h' => h h'.2)]; simpa using h
theorem clf_low (q : Nat → Vec) (a c k d : Nat) (h1 : q k d = false) (h2 : q a d = false) : clf q a c k d = false := by
  rcases clf_cases q a c k with e | e <;> rw [e]
  · exact h1
  · simp only [vadd, h1, h2]; rfl

theorem GI.step (h : GI R done c p) (hi : done ≤ i) (hil : i < R.length) (hc : R.getD i vzero c = true) (hlen : R'.length = R.length)
    (hR : ∀ k, k < R.length → R'.getD k vzero = clf (swf R done i) done c k) : GI R' (done + 1) (c + 1) (fun j => if j = done then c else p j) := by
  have hdl : done < R.length := by omega
  have hP : Lead (swf R done i done) c := by
    rw [swf_done]
    exact ⟨hc, fun d hd => h.low i hi hil d hd⟩
  have hPd : ∀ j, j < done → swf R done i done (p j) = false := fun j hj => hP.2 _ (h.lead j hj).2
  have hge : ∀ k, done ≤ k → k < R.length → ∀ d, d < c → swf R done i k d = false := fun k h1 h2 d hd => by
    obtain ⟨k', a, b, e⟩ := swf_ge R hi hil h1 h2
    rw [e]; exact h.low k' a b d hd
  refine ⟨by omega, fun j hj => ?_, fun j k hjk hk => ?_, fun j k hj hk hkj => ?_, fun k hk hkl d hd => ?_⟩
  · by_cases e : j = done
    · subst e
      rw [if_pos rfl, hR j hdl, clf_at]
      exact ⟨hP, by omega⟩
    · have hj' : j < done := by omega
      rw [if_neg e, hR j (by omega)]
      obtain ⟨h1, h2⟩ := h.lead j hj'
      refine ⟨?_, by omega⟩
      rcases clf_cases (swf R done i) done c j with e' | e' <;> rw [e']
      · rw [swf_lt R hi hj']; exact h1
      · rw [swf_lt R hi hj']; exact h1.add_lt hP h2
  · have hjd : j < done := by omega
    rw [if_neg (show ¬ j = done by omega)]
    by_cases e : k = done
    · rw [if_pos e]; exact (h.lead j hjd).2
    · rw [if_neg e]; exact h.rise j k hjk (by omega)
  · rw [hlen] at hk
    rw [hR k hk]
    by_cases e : j = done
    · subst e
      rw [if_pos rfl]
      exact clf_col _ _ _ _ hkj hP.1
    · have hj' : j < done := by omega
      rw [if_neg e]
      refine clf_low _ _ _ _ _ ?_ (hPd j hj')
      by_cases hkd : k < done
      · rw [swf_lt R hi hkd]; exact h.one j k hj' hk hkj
      · obtain ⟨k', a, b, e'⟩ := swf_ge R hi hil (by omega) hk
        rw [e']
        exact h.one j k' hj' b (by omega)
  · rw [hlen] at hkl
    rw [hR k hkl]
    by_cases e : d = c
    · subst e; exact clf_col _ _ _ _ (by omega) hP.1
    · exact clf_low _ _ _ _ _ (hge k (by omega) hkl d (by omega)) (hge done (Nat.le_refl _) hdl d (by omega))

theorem gauss_span (hi : done ≤ i) (hil : i < R.length) (hlen : R'.length = R.length) (hR : ∀ k, k < R.length → R'.getD k vzero = clf (swf R done i) done c k) : SpEq R' R := by
  have hdl : done < R.length := by omega
  have hq : ∀ k, k < R.length → swf R done i k ∈ R := fun k hk => by
    unfold swf
    split
    · exact getD_mem hdl
    · split
      · exact getD_mem hil
      · exact getD_mem hk
  have hd : Sp R' (swf R done i done) := by
    refine .mem (mem_getD.2 ⟨done, by omega, ?_⟩)
    rw [hR done hdl, clf_at]
  have hq2 : ∀ k, k < R.length → Sp R' (swf R done i k) := fun k hk => by
    have h1 : Sp R' (R'.getD k vzero) := .mem (getD_mem (by omega))
    rw [hR k hk] at h1
    rcases clf_cases (swf R done i) done c k with e | e <;> rw [e] at h1
    · exact h1
    · exact h1.of_add hd
  refine .of (fun r hr => ?_) (fun r hr => ?_)
  · obtain ⟨k, hk, rfl⟩ := mem_getD.1 hr
    rw [hlen] at hk
    rw [hR k hk]
    rcases clf_cases (swf R done i) done c k with e | e <;> rw [e]
    · exact .mem (hq k hk)
    · exact (Sp.mem (hq k hk)).add (.mem (hq done hdl))
  · obtain ⟨k, hk, rfl⟩ := mem_getD.1 hr
    by_cases e1 : k = done
    · subst e1
      have := hq2 i hil
      unfold swf at this
      rwa [if_pos rfl] at this
    · by_cases e2 : k = i
      · subst e2
        have := hq2 done hdl
        rwa [swf_done] at this
      · have := hq2 k hk
        unfold swf at this
        rwa [if_neg e2, if_neg e1] at this

theorem GI.finish {n : Nat} (h : GI R done n p) (hn : ∀ r ∈ R, ∀ c, n ≤ c → r c = false) : PF (R.take done) ∧ SpEq (R.take done) R := by
  have hle := h.le
  have hg : ∀ j (hj : j < (R.take done).length), (R.take done)[j] = R.getD j vzero := fun j hj => by
    rw [List.length_take] at hj
    have : j < R.length := by omega
    simp [this]
  have hlt : (R.take done).length = done := by rw [List.length_take]; omega
  refine ⟨⟨fun r hr => ?_, ?_⟩, .of (fun r hr => .mem (List.mem_of_mem_take hr)) (fun r hr => ?_)⟩
  · obtain ⟨j, hj, rfl⟩ := List.mem_iff_getElem.1 hr
    rw [hg j hj]
    exact ⟨_, (h.lead j (by omega)).1⟩
  · rw [List.pairwise_iff_getElem]
    intro j k hj hk hjk c d h1 h2
    rw [hg j hj] at h1 ⊢
    rw [hg k hk] at h2
    have e1 := h1.unique (h.lead j (by omega)).1
    have e2 := h2.unique (h.lead k (by omega)).1
    subst e1 e2
    exact ⟨h.rise j k hjk (by omega), h.one k j (by omega) (by omega) (by omega)⟩
  · obtain ⟨k, hk, rfl⟩ := mem_getD.1 hr
    by_cases hkd : k < done
    · refine .mem (List.mem_iff_getElem.2 ⟨k, by omega, hg k (by omega)⟩)
    · have : R.getD k vzero = vzero := by
        funext d
        by_cases hd : d < n
        · exact h.low k (by omega) hk d hd
        · exact hn _ hr d (by omega)
      rw [this]
      exact Sp.zero _
end

/-! ### stairs -/
def stL (U : Nat → Vec) (n : Nat) : List Vec := (List.range n).map U
theorem mem_stL {U : Nat → Vec} {n : Nat} {r : Vec} : r ∈ stL U n ↔ ∃ c, c < n ∧ U c = r := by
  unfold stL
  rw [List.mem_map]
  constructor
  · rintro ⟨c, hc, e⟩; exact ⟨c, List.mem_range.1 hc, e⟩
  · rintro ⟨c, hc, e⟩; exact ⟨c, List.mem_range.2 hc, e⟩
def upd (U : Nat → Vec) (a : Nat) (x : Vec) : Nat → Vec := fun d => if d = a then x else U d
theorem upd_same (U : Nat → Vec) (a : Nat) (x : Vec) : upd U a x a = x := if_pos rfl
theorem upd_other (U : Nat → Vec) {a d : Nat} (x : Vec) (h : d ≠ a) : upd U a x d = U d := if_neg h

def Stair (U : Nat → Vec) (n : Nat) : Prop := ∀ c, c < n → U c = vzero ∨ Lead (U c) c
open Classical in
/-- The stairs that are there, in order. -/
noncomputable def stNZ (U : Nat → Vec) (n : Nat) : List Vec := ((List.range n).filter fun c => decide (U c ≠ vzero)).map U
theorem mem_stNZ {U : Nat → Vec} {n : Nat} {r : Vec} : r ∈ stNZ U n ↔ ∃ c, c < n ∧ U c ≠ vzero ∧ U c = r := by
  unfold stNZ
  simp only [List.mem_map, List.mem_filter, List.mem_range, decide_eq_true_eq, and_assoc]
theorem stNZ_span (U : Nat → Vec) (n : Nat) : SpEq (stNZ U n) (stL U n) := .of
  (fun r hr => by obtain ⟨c, hc, _, e⟩ := mem_stNZ.1 hr; exact .mem (mem_stL.2 ⟨c, hc, e⟩))
  (fun r hr => by
    obtain ⟨c, hc, e⟩ := mem_stL.1 hr
    by_cases hz : U c = vzero
    · rw [← e, hz]; exact Sp.zero _
    · exact .mem (mem_stNZ.2 ⟨c, hc, hz, e⟩))

theorem stNZ_ech {U : Nat → Vec} {n : Nat} (h : Stair U n) : Ech (stNZ U n) := by
  refine ⟨fun r hr => ?_, ?_⟩
  · obtain ⟨c, hc, hz, rfl⟩ := mem_stNZ.1 hr
    exact ⟨c, (h c hc).resolve_left hz⟩
  · unfold stNZ
    rw [List.pairwise_map]
    refine List.Pairwise.imp_of_mem ?_ (List.Pairwise.filter _ (List.pairwise_lt_range (n := n)))
    intro a b ha hb hab c h1 h2
    simp only [List.mem_filter, List.mem_range, decide_eq_true_eq] at ha hb
    have e1 := ((h a ha.1).resolve_left ha.2).unique h1
    have e2 := ((h b hb.1).resolve_left hb.2).unique h2
    omega

/-- A row that was taken down to a column where no stair is. -/
theorem stair_new {U : Nat → Vec} {n : Nat} (h : Stair U n) {x : Vec} {c : Nat} (hc : U c = vzero) (hx : Lead x c) : ¬ Sp (stL U n) x := fun hs => by
  refine ech_new (stNZ_ech h) hx (fun s hs hl => ?_) ((stNZ_span U n x).2 hs)
  obtain ⟨d, hd, hz, rfl⟩ := mem_stNZ.1 hs
  have := ((h d hd).resolve_left hz).unique hl
  subst this
  exact hz hc

theorem stair_upd {U : Nat → Vec} {n : Nat} (h : Stair U n) {x : Vec} {c : Nat} (hx : Lead x c) : Stair (upd U c x) n := fun d hd => by
  by_cases e : d = c
  · subst e; rw [upd_same]; exact .inr hx
  · rw [upd_other U x e]; exact h d hd

theorem span_upd {U : Nat → Vec} {n : Nat} {x : Vec} {c : Nat} (hcn : c < n) (hc : U c = vzero) : SpEq (stL (upd U c x) n) (stL U n ++ [x]) := .of
  (fun r hr => by
    obtain ⟨d, hd, rfl⟩ := mem_stL.1 hr
    by_cases e : d = c
    · subst e; rw [upd_same]; exact .mem (by simp)
    · rw [upd_other U x e]; exact .mem (List.mem_append.2 (.inl (mem_stL.2 ⟨d, hd, rfl⟩))))
  (fun r hr => by
    rcases List.mem_append.1 hr with hr | hr
    · obtain ⟨d, hd, rfl⟩ := mem_stL.1 hr
      by_cases e : d = c
      · subst e; rw [hc]; exact Sp.zero _
      · exact .mem (mem_stL.2 ⟨d, hd, upd_other U x e⟩)
    · simp at hr
      subst hr
      exact .mem (mem_stL.2 ⟨c, hcn, upd_same U c r⟩))

/-- One row of gather: it hangs on those ahead .. -/
theorem gather_in {U : Nat → Vec} {n : Nat} {l : List Vec} {r : Vec} (he : SpEq (stL U n) l) (hx : Sp (stL U n) (vadd vzero r)) : Sp l r ∧ SpEq (stL U n) (l ++ [r]) := by
  have h1 : Sp l r := (he r).1 (by rw [vadd_comm, vadd_zero] at hx; exact hx)
  exact ⟨h1, he.trans (SpEq.snoc_in h1).symm⟩
/-- .. or brings a stair. -/
theorem gather_out {U : Nat → Vec} {n : Nat} {l : List Vec} {r x : Vec} {c : Nat} (h : Stair U n) (he : SpEq (stL U n) l) (hx : Sp (stL U n) (vadd x r)) (hc : U c = vzero) (hcn : c < n) (hl : Lead x c) :
    ¬ Sp l r ∧ SpEq (stL (upd U c x) n) (l ++ [r]) ∧ Stair (upd U c x) n := by
  refine ⟨fun hs => ?_, ?_, stair_upd h hl⟩
  · exact stair_new h hc hl (hx.of_add ((he r).2 hs))
  · refine (span_upd hcn hc).trans (SpEq.trans ?_ (he.snoc r))
    have hx1 : ∀ y, Sp (stL U n ++ [y]) (vadd x r) := fun y => hx.sub fun t ht => List.mem_append.2 (.inl ht)
    refine .of (fun s hs => ?_) (fun s hs => ?_)
    · rcases List.mem_append.1 hs with hs | hs
      · exact .mem (List.mem_append.2 (.inl hs))
      · simp at hs; subst hs; exact (hx1 r).of_add (.mem (by simp))
    · rcases List.mem_append.1 hs with hs | hs
      · exact .mem (List.mem_append.2 (.inl hs))
      · simp at hs
        subst hs
        have := hx1 x
        rw [vadd_comm] at this
        exact this.of_add (.mem (by simp))

/-! ### plain -/
structure PI (U T : Nat → Vec) (n a e : Nat) : Prop where
  nil : ∀ d, d < n → (U d = vzero ↔ T d = vzero)
  lead : ∀ d, d < n → U d = vzero ∨ Lead (U d) d
  old : ∀ d, d < a → U d = T d
  plain : ∀ d d', a < d → d < d' → d' < n → U d' ≠ vzero → U d d' = false
  row : ∀ d', a < d' → d' < e → d' < n → U d' ≠ vzero → U a d' = false
  span : SpEq (stL U n) (stL T n)

theorem PI.start {T : Nat → Vec} {n : Nat} (h : Stair T n) : PI T T n n n := ⟨fun _ _ => Iff.rfl, h, fun _ _ => rfl, fun _ _ _ _ h => by omega, fun _ _ _ h => by omega, SpEq.refl _⟩
/-- From the row a to the next one. -/
theorem PI.down {U T : Nat → Vec} {n a : Nat} (h : PI U T n (a + 1) n) : PI U T n a (a + 1) :=
  ⟨h.nil, h.lead, fun d hd => h.old d (by omega), fun d d' h1 h2 h3 h4 => by
    by_cases e : d = a + 1
    · subst e; exact h.row d' (by omega) h3 h3 h4
    · exact h.plain d d' (by omega) h2 h3 h4, fun d' h1 h2 => by omega, h.span⟩
theorem PI.gap {U T : Nat → Vec} {n a : Nat} (h : PI U T n a (a + 1)) (hz : U a = vzero) : PI U T n a n :=
  ⟨h.nil, h.lead, h.old, h.plain, fun d' _ _ _ _ => by rw [hz]; rfl, h.span⟩
theorem PI.keep {U T : Nat → Vec} {n a e : Nat} (h : PI U T n a e) (hz : U e = vzero ∨ U a e = false) : PI U T n a (e + 1) :=
  ⟨h.nil, h.lead, h.old, h.plain, fun d' h1 h2 h3 h4 => by
    by_cases he : d' = e
    · subst he
      rcases hz with hz | hz
      · exact absurd hz h4
      · exact hz
    · exact h.row d' h1 (by omega) h3 h4, h.span⟩
theorem PI.add {U T : Nat → Vec} {n a e : Nat} (h : PI U T n a e) (hae : a < e) (hen : e < n) (hz : U e ≠ vzero) (hb : U a e = true) : PI (upd U a (vadd (U a) (U e))) T n a (e + 1) := by
  have hne : e ≠ a := by omega
  have hU : U a ≠ vzero := by intro e0; rw [e0] at hb; cases hb
  have hLa := (h.lead a (by omega)).resolve_left hU
  have hLe := (h.lead e hen).resolve_left hz
  have hLn := hLa.add_lt hLe hae
  have hb2 : ∀ d, d ≠ a → upd U a (vadd (U a) (U e)) d = U d := fun d hd => upd_other U _ hd
  refine ⟨fun d hd => ?_, fun d hd => ?_, fun d hd => ?_, fun d d' h1 h2 h3 h4 => ?_, fun d' h1 h2 h3 h4 => ?_, ?_⟩
  · by_cases e1 : d = a
    · subst e1
      rw [upd_same]
      exact ⟨fun h0 => absurd h0 hLn.ne, fun h0 => absurd ((h.nil d hd).2 h0) hU⟩
    · rw [hb2 d e1]; exact h.nil d hd
  · by_cases e1 : d = a
    · subst e1; rw [upd_same]; exact .inr hLn
    · rw [hb2 d e1]; exact h.lead d hd
  · rw [hb2 d (by omega)]; exact h.old d hd
  · rw [hb2 d' (by omega)] at h4
    rw [hb2 d (by omega)]
    exact h.plain d d' h1 h2 h3 h4
  · rw [hb2 d' (by omega)] at h4
    rw [upd_same]
    by_cases e1 : d' = e
    · subst e1; simp only [vadd, hb, hLe.1]; rfl
    · simp only [vadd, h.row d' h1 (by omega) h3 h4, hLe.2 d' (by omega)]; rfl
  · refine SpEq.trans ?_ h.span
    have he : ∀ x, Sp (stL (upd U a x) n) (U e) := fun x => .mem (mem_stL.2 ⟨e, hen, upd_other U x hne⟩)
    refine .of (fun r hr => ?_) (fun r hr => ?_)
    · obtain ⟨d, hd, rfl⟩ := mem_stL.1 hr
      by_cases e1 : d = a
      · subst e1; rw [upd_same]; exact (Sp.mem (mem_stL.2 ⟨d, hd, rfl⟩)).add (.mem (mem_stL.2 ⟨e, hen, rfl⟩))
      · rw [hb2 d e1]; exact .mem (mem_stL.2 ⟨d, hd, rfl⟩)
    · obtain ⟨d, hd, rfl⟩ := mem_stL.1 hr
      by_cases e1 : d = a
      · subst e1
        have h1 : Sp (stL (upd U d (vadd (U d) (U e))) n) (vadd (U d) (U e)) := .mem (mem_stL.2 ⟨d, hd, upd_same U d _⟩)
        exact h1.of_add (he _)
      · exact .mem (mem_stL.2 ⟨d, hd, hb2 d e1⟩)

theorem PI.finish {U T : Nat → Vec} {n : Nat} (h : PI U T n 0 n) : PF (stNZ U n) ∧ SpEq (stNZ U n) (stL T n) := by
  refine ⟨⟨(stNZ_ech h.lead).1, ?_⟩, (stNZ_span U n).trans h.span⟩
  unfold stNZ
  rw [List.pairwise_map]
  refine List.Pairwise.imp_of_mem ?_ (List.Pairwise.filter _ (List.pairwise_lt_range (n := n)))
  intro a b ha hb hab c d h1 h2
  simp only [List.mem_filter, List.mem_range, decide_eq_true_eq] at ha hb
  have e1 := ((h.lead a ha.1).resolve_left ha.2).unique h1
  have e2 := ((h.lead b hb.1).resolve_left hb.2).unique h2
  subst e1 e2
  refine ⟨hab, ?_⟩
  by_cases ha0 : a = 0
  · subst ha0; exact h.row b hab hb.1 hb.1 hb.2
  · exact h.plain a b (by omega) hab hb.1 hb.2
end Go.Proofs.YtkhdjjcflbdegaaGreatDoor
end

section
/- math/bits: OnesCount64 by its own text. -/
namespace Go.Proofs.YtkhdjjcflbdegaaGreatDoor
open Go.RowKit Go.Extern.Stop Go.Stop Go.Extern

theorem and_lit (a c : Nat) (C : Int) (hC : C = (c : Int)) (ha : a < 18446744073709551616) (hc : c < 18446744073709551616) : bits .and .u64 (a : Int) C = ((a &&& c : Nat) : Int) := by
  rw [hC]; exact bits_and_u64_nat a c ha hc

theorem wrap_nat (a : Nat) (ha : a < 18446744073709551616) : IntKind.u64.wrap (a : Int) = (a : Int) := by rw [IntKind.wrap_u64]; omega

theorem Ones64_any (x : Nat) (hx : x < 18446744073709551616) (w : World) :
    Calls Tryz.prog 122 #[.int .u64 (x : Int)] w fun e w' => e = .returned (.int .i64 (pop x : Nat)) ∧ w = w' := by
  go_enter Tryz.func122, Tryz.ntmps122
  go_wp2
  have E := onesCount_eq x hx
  simp only at E
  obtain ⟨h1, h2, h3, h4, h5, h6, h7, h8⟩ := E
  have e1 : IntKind.u64.wrap (bits BinOp.and IntKind.u64 ((x : Int) / 2) 6148914691236517205 + bits BinOp.and IntKind.u64 (x : Int) 6148914691236517205) = (((x / 2 &&& 6148914691236517205) + (x &&& 6148914691236517205) : Nat) : Int) := by
    rw [show ((x : Int) / 2) = ((x / 2 : Nat) : Int) by omega, and_lit (x / 2) 6148914691236517205 6148914691236517205 rfl (by omega) (by decide), and_lit x 6148914691236517205 6148914691236517205 rfl hx (by decide), ← Int.natCast_add, wrap_nat _ h1]
  simp only [e1]
  generalize (x / 2 &&& 6148914691236517205) + (x &&& 6148914691236517205) = x1 at *
  have e2 : IntKind.u64.wrap (bits BinOp.and IntKind.u64 ((x1 : Int) / 4) 3689348814741910323 + bits BinOp.and IntKind.u64 (x1 : Int) 3689348814741910323) = (((x1 / 4 &&& 3689348814741910323) + (x1 &&& 3689348814741910323) : Nat) : Int) := by
    rw [show ((x1 : Int) / 4) = ((x1 / 4 : Nat) : Int) by omega, and_lit (x1 / 4) 3689348814741910323 3689348814741910323 rfl (by omega) (by decide), and_lit x1 3689348814741910323 3689348814741910323 rfl h1 (by decide), ← Int.natCast_add, wrap_nat _ h2]
  simp only [e2]
  generalize (x1 / 4 &&& 3689348814741910323) + (x1 &&& 3689348814741910323) = x2 at *
  have e3 : bits BinOp.and IntKind.u64 (IntKind.u64.wrap ((x2 : Int) / 16 + (x2 : Int))) 1085102592571150095 = (((x2 / 16 + x2) &&& 1085102592571150095 : Nat) : Int) := by
    rw [show ((x2 : Int) / 16 + (x2 : Int)) = ((x2 / 16 + x2 : Nat) : Int) by omega, wrap_nat _ h3, and_lit _ 1085102592571150095 1085102592571150095 rfl h3 (by decide)]
  simp only [e3]
  generalize (x2 / 16 + x2) &&& 1085102592571150095 = x3 at *
  have e4 : IntKind.u64.wrap ((x3 : Int) + (x3 : Int) / 256) = ((x3 + x3 / 256 : Nat) : Int) := by
    rw [show ((x3 : Int) + (x3 : Int) / 256) = ((x3 + x3 / 256 : Nat) : Int) by omega, wrap_nat _ h5]
  simp only [e4]
  generalize x3 + x3 / 256 = x4 at *
  have e5 : IntKind.u64.wrap ((x4 : Int) + (x4 : Int) / 65536) = ((x4 + x4 / 65536 : Nat) : Int) := by
    rw [show ((x4 : Int) + (x4 : Int) / 65536) = ((x4 + x4 / 65536 : Nat) : Int) by omega, wrap_nat _ h6]
  simp only [e5]
  generalize x4 + x4 / 65536 = x5 at *
  have e6 : IntKind.u64.wrap ((x5 : Int) + (x5 : Int) / 4294967296) = ((x5 + x5 / 4294967296 : Nat) : Int) := by
    rw [show ((x5 : Int) + (x5 : Int) / 4294967296) = ((x5 + x5 / 4294967296 : Nat) : Int) by omega, wrap_nat _ (by omega)]
  simp only [e6]
  generalize x5 + x5 / 4294967296 = x6 at *
  clear e1 e2 e3 e4 e5 e6 h1 h2 h3 h4 h5 h6 hx
  have e7 : wrap64 (x6 : Int) = (x6 : Int) := by unfold wrap64; omega
  simp only [e7, i64_and127]
  go_ret
  exact ⟨by rw [← h8, Int.natCast_emod]; rfl, rfl⟩
end Go.Proofs.YtkhdjjcflbdegaaGreatDoor
end

section
/- Mathematics of package ltrow: the sorted walk is the numbers below l that lie on it. -/
namespace Go.Proofs.YtkhdjjcflbdegaaGreatDoor

/-- The numbers below l that lie in W, rising. -/
def risN (l : Nat) (W : List Nat) : List Nat := (List.range l).filter fun x => decide (x ∈ W)
theorem mem_risN {l x : Nat} {W : List Nat} : x ∈ risN l W ↔ x < l ∧ x ∈ W := by
  unfold risN
  rw [List.mem_filter, List.mem_range, decide_eq_true_eq]
theorem risN_sorted (l : Nat) (W : List Nat) : (risN l W).Pairwise (· < ·) := List.Pairwise.filter _ List.pairwise_lt_range
theorem risN_nodup (l : Nat) (W : List Nat) : (risN l W).Nodup := (risN_sorted l W).imp fun h => Nat.ne_of_lt h
theorem risN_perm {l : Nat} {W : List Nat} (hnd : W.Nodup) (hlt : ∀ x ∈ W, x < l) : (risN l W).Perm W :=
  (List.perm_ext_iff_of_nodup (risN_nodup l W) hnd).2 fun x => ⟨fun h => (mem_risN.1 h).2, fun h => mem_risN.2 ⟨hlt x h, h⟩⟩
theorem risN_length {l : Nat} {W : List Nat} (hnd : W.Nodup) (hlt : ∀ x ∈ W, x < l) : (risN l W).length = W.length := (risN_perm hnd hlt).length_eq
theorem risN_zero (W : List Nat) : risN 0 W = [] := rfl
theorem risN_in {l : Nat} {W : List Nat} (h : l ∈ W) : risN (l + 1) W = risN l W ++ [l] := by
  unfold risN; rw [List.range_succ, List.filter_append]; simp [h]
theorem risN_out {l : Nat} {W : List Nat} (h : ¬ l ∈ W) : risN (l + 1) W = risN l W := by
  unfold risN; rw [List.range_succ, List.filter_append]; simp [h]
theorem mem_mapI {W : List Nat} {x : Nat} : (x : Int) ∈ W.map Int.ofNat ↔ x ∈ W := by
  rw [List.mem_map]
  exact ⟨fun ⟨y, hy, e⟩ => by
    have : y = x := Int.ofNat.inj e
    exact this ▸ hy, fun h => ⟨x, h, rfl⟩⟩
theorem sort_ris {l : Nat} {W : List Nat} (hnd : W.Nodup) (hlt : ∀ x ∈ W, x < l) :
    ((W.map Int.ofNat).mergeSort fun x y => decide (x ≤ y)) = (risN l W).map Int.ofNat := by
  refine List.Perm.eq_of_pairwise (le := fun a b : Int => a ≤ b) (fun a b _ _ h1 h2 => Int.le_antisymm h1 h2) ?_ ?_ ?_
  · have := List.pairwise_mergeSort (le := fun x y : Int => decide (x ≤ y)) (fun a b c h1 h2 => by
      simp only [decide_eq_true_eq] at h1 h2 ⊢; omega) (fun a b => by
      simp only [Bool.or_eq_true, decide_eq_true_eq]; omega) (W.map Int.ofNat)
    exact this.imp fun h => of_decide_eq_true h
  · rw [List.pairwise_map]
    exact (risN_sorted l W).imp fun h => by
      show ((_ : Nat) : Int) ≤ ((_ : Nat) : Int)
      omega
  · exact (List.mergeSort_perm _ _).trans ((risN_perm hnd hlt).symm.map _)
end Go.Proofs.YtkhdjjcflbdegaaGreatDoor
end
