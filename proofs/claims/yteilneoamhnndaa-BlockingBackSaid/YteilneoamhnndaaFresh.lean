/- A list of rows of the call's own, each row in memory of the call's own (MatFresh). -/
import Derived.Test.YteilneoamhnndaaLists
namespace Go.Proofs.Yteilneoamhnndaa
open Go.RowKit Go.Extern.Stop Go.Stop Go.Extern

def MatFresh {α : Type} (f : α → Value) (te : TypeId) (base : Nat) (e : TypeId) (w : World) (v : Value) (L : List (List α)) : Prop :=
  ∃ vs : List Value, w.ownsRow base e 1 v L.length vs ∧ (∀ i, ElAt f te base w (vs.getD i nilS) (L.getD i [])) ∧ ∀ x ∈ vs, ∀ b, x.ownBlock = some b → base ≤ b

theorem own_ge {g base n c : Nat} (h : base ≤ g) : ∀ b, (Value.slice (some ⟨g, 0, none⟩) n c).ownBlock = some b → base ≤ b := by
  intro b hb
  have e : g = b := by simpa [Value.ownBlock] using hb
  omega

section
variable {α : Type} {f : α → Value} {w w2 wr : World} {v v2 x : Value} {L : List (List α)} {te e : TypeId} {base : Nat} {r : List α} {vs : List Value}

theorem MatFresh.own (h : MatFresh f te base e w v L) : MatOwn f te base e w v L := by
  obtain ⟨vs, h1, h2, -⟩ := h
  exact ⟨vs, h1, h2⟩
theorem MatFresh.empty (w : World) : MatFresh f te base e w (.slice none 0 0) [] :=
  ⟨[], World.ownsRow_nil _ _ _ _, fun i => by simpa using ElAt.nil f te base _, fun x hx => by simp at hx⟩
theorem MatFresh.app {o : Obj} (hfr : ∀ x ∈ vs, ∀ b, x.ownBlock = some b → base ≤ b) (hxb : ∀ b, x.ownBlock = some b → base ≤ b) (hne : e ≠ te) (hown : w.ownsRow base e 1 v L.length vs) (hel : ∀ i, ElAt f te base w (vs.getD i nilS) (L.getD i [])) (hx : ElAt f te base w x r)
    (hown' : w2.ownsRow base e 1 v2 (L.length + 1) (vs ++ [x])) (hg : (w.alloc o).grownBy w2 v.ownBlock) : MatFresh f te base e w2 v2 (L ++ [r]) := by
  have hb : Below w.heap.size w (w.alloc o) := (Below.refl _ _).alloc (Nat.le_refl _) _
  have hl : vs.length = L.length := by have := hown.1; omega
  refine ⟨vs ++ [x], by rw [List.length_append]; exact hown', fun i => ?_, fun y hy b hyb => ?_⟩
  · rw [getD_snoc, getD_snoc, hl]
    by_cases h : i < L.length
    · rw [if_pos h, if_pos h]; exact ((hel i).mono hb).grown hne (hown.alloc o) hg
    · rw [if_neg h, if_neg h]
      by_cases h2 : i = L.length
      · rw [if_pos h2, if_pos h2]; exact (hx.mono hb).grown hne (hown.alloc o) hg
      · rw [if_neg h2, if_neg h2]; exact ElAt.nil f te base _
  · rcases List.mem_append.1 hy with h | h
    · exact hfr y h b hyb
    · rw [List.mem_singleton.1 h] at hyb; exact hxb b hyb
/-- What is written into a row that is older leaves it as it reads. -/
theorem MatFresh.at_kept {row : Option Nat} (h : MatFresh f te base e w v L) (hg : w.grownBy wr row) (hr : ∀ b, row = some b → b < base) : MatAt f wr v L := by
  obtain ⟨vs, h1, h2, h3⟩ := h
  have hl : vs.length = L.length := by have := h1.1; omega
  have hv : v.ownBlock = none ∨ v.ownBlock ≠ row := by
    cases hb : v.ownBlock with
    | none => exact .inl rfl
    | some k =>
      refine .inr fun e => ?_
      have := (h1.lt k hb).1
      have := hr k e.symm
      omega
  refine ⟨vs, ListAt.of_owns (n := L.length) (by rw [List.map_id]; exact h1.kept hg hv), hl, fun i => ?_⟩
  obtain ⟨a, cap, e1, h4, h5, h6⟩ := (h2 i).1
  refine ⟨a, cap, e1, h4, h5, fun hp => ?_⟩
  obtain ⟨b, off, rfl, hc⟩ := h6 hp
  have hi : i < vs.length := by
    apply Nat.lt_of_not_le
    intro hle
    rw [List.getD_eq_getElem?_getD (l := L), List.getElem?_eq_none (by omega)] at hp
    simp at hp
  have hbb : base ≤ b := h3 (vs.getD i nilS) (by rw [List.getD_eq_getElem?_getD, List.getElem?_eq_getElem hi]; exact List.getElem_mem hi) b (by rw [e1]; rfl)
  refine ⟨b, off, rfl, fun j hj => ?_⟩
  have hx := hc j hj
  rw [World.cell?_of_block (w := w) (a := ⟨b, off + j, none⟩) (hg.block b (World.block_lt_of_cell? w _ hx) (fun e => by have := hr b e.symm; omega))]
  exact hx
end

theorem MatFresh.mono {α : Type} {f : α → Value} {w w' : World} {te e : TypeId} {base : Nat} {v : Value} {L : List (List α)} (h : MatFresh f te base e w v L) (hb : Below w.heap.size w w') : MatFresh f te base e w' v L := by
  obtain ⟨vs, h1, h2, h3⟩ := h
  exact ⟨vs, owns_kept h1 hb, fun i => (h2 i).mono hb, h3⟩
theorem MatFresh.start {α : Type} {f : α → Value} {te e : TypeId} {base : Nat} (w : World) (hb : base ≤ w.heap.size) : MatFresh f te base e (w.alloc (.cells #[] e)) (.slice (some ⟨w.heap.size, 0, none⟩) 0 0) [] :=
  ⟨[], World.ownsRow_made (base := base) (e := e) (size := 1) w #[] 0 hb (by decide) rfl, fun i => by simpa using ElAt.nil f te base _, fun x hx => by simp at hx⟩
theorem MatFresh.below {α : Type} {f : α → Value} {w : World} {te e : TypeId} {base base' : Nat} {v : Value} {L : List (List α)} (h : MatFresh f te base e w v L) (hb : base' ≤ base) : MatFresh f te base' e w v L := by
  obtain ⟨vs, h1, h2, h3⟩ := h
  refine ⟨vs, ownsRow_base h1 hb, fun i => ⟨(h2 i).1, fun hp b hx => ?_⟩, fun x hx b hxb => Nat.le_trans hb (h3 x hx b hxb)⟩
  rcases (h2 i).2 hp b hx with h4 | h4
  · by_cases hi : i < vs.length
    · have e1 : vs.getD i nilS = vs[i] := by simp [List.getD_eq_getElem?_getD, hi]
      have := h3 _ (List.getElem_mem hi) b (by rw [← e1]; exact hx)
      omega
    · rw [List.getD_eq_getElem?_getD, List.getElem?_eq_none (by omega)] at hx
      cases hx
  · exact .inr h4
/-- What lies from a block number on stays as it reads where what is written lies ahead of it. -/
theorem MatFresh.far {α : Type} {f : α → Value} {w w' : World} {te e : TypeId} {base : Nat} {v : Value} {L : List (List α)} (h : MatFresh f te base e w v L) (hs : ∀ g, base ≤ g → g < w.heap.size → w'.heap[g]? = w.heap[g]?) : MatFresh f te base e w' v L := by
  obtain ⟨vs, h1, h2, h3⟩ := h
  refine ⟨vs, ⟨h1.1, ?_⟩, fun i => ?_, h3⟩
  · rcases h1.2 with h4 | ⟨g, cap, cur, h4, h5, h6, h7⟩
    · exact .inl h4
    · exact .inr ⟨g, cap, cur, h4, h5, by rw [hs g h5 (Array.getElem?_eq_some_iff.1 h6).1]; exact h6, h7⟩
  · obtain ⟨⟨a, cap, ev, k1, k2, k3⟩, k4⟩ := h2 i
    by_cases hp : 0 < (L.getD i []).length
    · obtain ⟨b, off, rfl, hc⟩ := k3 hp
      have hob : (vs.getD i nilS).ownBlock = some b := by rw [ev]; rfl
      have hlt : base ≤ b := by
        by_cases hi : i < vs.length
        · have e1 : vs.getD i nilS = vs[i] := by simp [List.getD_eq_getElem?_getD, hi]
          exact h3 _ (List.getElem_mem hi) b (by rw [← e1]; exact hob)
        · rw [List.getD_eq_getElem?_getD, List.getElem?_eq_none (by omega)] at hob
          cases hob
      have hb := hs b hlt (World.block_lt_of_cell? w _ (hc 0 hp))
      refine ⟨⟨_, cap, ev, k1, k2, fun _ => ⟨b, off, rfl, fun j hj => ?_⟩⟩, fun _ b' hb' => ?_⟩
      · rw [World.cell?_of_block (w := w) (a := ⟨b, off + j, none⟩) hb]
        exact hc j hj
      · rw [hob] at hb'
        cases hb'
        rw [hb]
        exact k4 hp b hob
    · exact ⟨⟨a, cap, ev, k1, k2, fun hp' => absurd hp' hp⟩, fun hp' => absurd hp' hp⟩

end Go.Proofs.Yteilneoamhnndaa
