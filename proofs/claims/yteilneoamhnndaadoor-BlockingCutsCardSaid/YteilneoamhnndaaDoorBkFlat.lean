/- Blocks in a row: the lists of their symbols' values, of their bytes. -/
import Derived.Test.YteilneoamhnndaaDoorBkFit
import Derived.Test.YteilneoamhnndaaDoorCat
namespace Go.Proofs.YteilneoamhnndaaDoor
open Go.RowKit Go.Extern.Stop Go.Stop Go.Extern

theorem flat_rel {R : Value → List Nat → Prop} : ∀ (A : List (List Value)) (B : List (List (List Nat))), A.length = B.length → (∀ i, i < A.length → (A.getD i []).length = (B.getD i []).length ∧ ∀ k, k < (A.getD i []).length → R ((A.getD i []).getD k nilS) ((B.getD i []).getD k [])) →
    A.flatten.length = B.flatten.length ∧ ∀ i, i < A.flatten.length → R (A.flatten.getD i nilS) (B.flatten.getD i []) := by
  intro A
  induction A with
  | nil =>
    intro B hl _
    have : B = [] := List.eq_nil_of_length_eq_zero (by simpa using hl.symm)
    subst this
    exact ⟨rfl, fun i hi => by simp at hi⟩
  | cons a A ih =>
    intro B hl h
    cases B with
    | nil => simp at hl
    | cons b B =>
      obtain ⟨h1, h2⟩ := ih B (by simpa using hl) fun i hi => by simpa using h (i + 1) (by simpa using hi)
      obtain ⟨h3, h4⟩ := h 0 (by simp)
      simp only [List.getD_cons_zero] at h3 h4
      refine ⟨by simp only [List.flatten_cons, List.length_append]; omega, fun i hi => ?_⟩
      simp only [List.flatten_cons, List.length_append] at hi ⊢
      by_cases hlt : i < a.length
      · have := h4 i hlt
        simp only [List.getD_eq_getElem?_getD, List.getElem?_append_left hlt, List.getElem?_append_left (show i < b.length by omega)] at this ⊢
        exact this
      · have := h2 (i - a.length) (by omega)
        simp only [List.getD_eq_getElem?_getD, List.getElem?_append_right (show a.length ≤ i by omega), List.getElem?_append_right (show b.length ≤ i by omega)] at this ⊢
        rw [← h3]
        exact this

theorem ListAt.vals {α : Type} {f : α → Value} {w : World} {v : Value} {l : List α} (h : ListAt f w v l) : ListAt id w v (l.map f) := by
  obtain ⟨a, cap, rfl, h1, h2, h3⟩ := h
  refine ⟨a, cap, by simp, by simpa using h1, h2, fun hp => ?_⟩
  obtain ⟨b, off, rfl, hc⟩ := h3 (by simpa using hp)
  refine ⟨b, off, rfl, fun j hj => ?_⟩
  rw [hc j (by simpa using hj)]
  simp
theorem MatAt.vals {α : Type} {f : α → Value} {w : World} {v : Value} {L : List (List α)} (h : MatAt f w v L) : MatAt id w v (L.map (List.map f)) := by
  obtain ⟨vs, h1, h2, h3⟩ := h
  refine ⟨vs, h1, by simpa using h2, fun i => ?_⟩
  by_cases hi : i < L.length
  · have := (h3 i).vals
    simpa [List.getD_eq_getElem?_getD, hi] using this
  · rw [List.getD_eq_getElem?_getD, List.getElem?_eq_none (by omega), List.getD_eq_getElem?_getD, List.getElem?_eq_none (by simp; omega)]
    exact ListAt.nil _ _

/-- The values of the symbols of blocks. -/
theorem CubeAt.vals {w : World} {v : Value} {C : List (List (List Nat))} (h : CubeAt byteV w v C) : ∃ X : List (List Value), MatAt id w v X ∧ X.length = C.length ∧ (∀ l ∈ X, ∀ y ∈ l, y.oneCell' = true) ∧ X.flatten.length = C.flatten.length ∧ ∀ i, ListAt byteV w (X.flatten.getD i nilS) (C.flatten.getD i []) := by
  obtain ⟨vs, h1, h2, h3⟩ := h
  obtain ⟨F, hF⟩ : ∃ F : Nat → List Value, ∀ i, ListAt id w (vs.getD i nilS) (F i) ∧ (F i).length = (C.getD i []).length ∧ ∀ k, ListAt byteV w ((F i).getD k nilS) ((C.getD i []).getD k []) := ⟨fun i => (h3 i).choose, fun i => (h3 i).choose_spec⟩
  have hget : ∀ i, i < C.length → ((List.range C.length).map F).getD i [] = F i := fun i hi => by simp [List.getD_eq_getElem?_getD, hi]
  have hfl := flat_rel (R := fun x r => ListAt byteV w x r) ((List.range C.length).map F) C (by simp) fun i hi => by
    have hi' : i < C.length := by simpa using hi
    rw [hget i hi']
    exact ⟨(hF i).2.1, fun k _ => (hF i).2.2 k⟩
  refine ⟨(List.range C.length).map F, ⟨vs, h1, by simpa using h2, fun i => ?_⟩, by simp, fun l hl y hy => ?_, hfl.1, fun i => ?_⟩
  · by_cases hi : i < C.length
    · rw [hget i hi]; exact (hF i).1
    · rw [List.getD_eq_getElem?_getD, List.getElem?_eq_none (by omega), List.getD_eq_getElem?_getD, List.getElem?_eq_none (by simp; omega)]
      exact ListAt.nil _ _
  · obtain ⟨i, hi, rfl⟩ := List.mem_map.1 hl
    obtain ⟨k, hk, rfl⟩ := List.getElem_of_mem hy
    obtain ⟨a, cap, e, -⟩ := (hF i).2.2 k
    have : (F i).getD k nilS = (F i)[k] := by simp [List.getD_eq_getElem?_getD, hk]
    rw [← this, e]
    rfl
  · by_cases hi : i < ((List.range C.length).map F).flatten.length
    · exact hfl.2 i hi
    · rw [List.getD_eq_getElem?_getD, List.getElem?_eq_none (by omega), List.getD_eq_getElem?_getD, List.getElem?_eq_none (by rw [← hfl.1]; omega)]
      exact ListAt.nil _ _

/-- How many symbols, how many bytes blocks have that fit. -/
theorem FitOk.take {b n l q : Nat} {C : List (List (List Nat))} (h : FitOk b n l q C) : ∀ k, k ≤ n → ((C.take k).flatten).length = offP l q k := by
  intro k
  induction k with
  | zero => intro _; simp [offP_zero]
  | succ k ih =>
    intro hk
    have hk' : k < C.length := by rw [h.1]; omega
    rw [List.take_add_one, List.flatten_append, List.length_append, ih (by omega), offP_succ, List.getElem?_eq_getElem hk']
    have := (h.2 k (by omega)).1
    rw [List.getD_eq_getElem?_getD, List.getElem?_eq_getElem hk'] at this
    simp at this ⊢
    exact this
theorem FitOk.syms {s b n l q : Nat} {C : List (List (List Nat))} (hp : PlanOk s b n l q) (h : FitOk b n l q C) : C.flatten.length = symT s b := by
  have := h.take n (Nat.le_refl _)
  rwa [← h.1, List.take_length, h.1, hp.off] at this
theorem FitOk.rows {b n l q : Nat} {C : List (List (List Nat))} (h : FitOk b n l q C) : ∀ r ∈ C.flatten, r.length = b := fun r hr => by
  obtain ⟨M, hM, hr⟩ := List.mem_flatten.1 hr
  obtain ⟨i, hi, rfl⟩ := List.getElem_of_mem hM
  obtain ⟨k, hk, rfl⟩ := List.getElem_of_mem hr
  have h2 := (h.2 i (by rw [← h.1]; exact hi)).2 k (by simpa [List.getD_eq_getElem?_getD, hi] using hk)
  simpa [List.getD_eq_getElem?_getD, hi, hk] using h2
theorem flat_len {L : List (List Nat)} {b : Nat} (h : ∀ r ∈ L, r.length = b) : L.flatten.length = L.length * b := by
  induction L with
  | nil => simp
  | cons r L ih =>
    rw [List.flatten_cons, List.length_append, ih fun x hx => h x (List.mem_cons_of_mem _ hx), h r List.mem_cons_self, List.length_cons, Nat.add_mul]
    omega
theorem FitOk.bytes {s b n l q : Nat} {C : List (List (List Nat))} (hp : PlanOk s b n l q) (h : FitOk b n l q C) : C.flatten.flatten.length = symT s b * b := by rw [flat_len h.rows, h.syms hp]
end Go.Proofs.YteilneoamhnndaaDoor
