/- Rows of slices of a call's own: a block of their headers, each row in a block of its own. -/
import Derived.Test.YteilneoamhnndaaDoorCubes
import Derived.Test.YteilneoamhnndaaDoorOwn
import Derived.Test.YteilneoamhnndaaDoorLists
import Derived.Test.YteilneoamhnndaaDoorSyMath
namespace Go.Proofs.YteilneoamhnndaaDoor
open Go.RowKit Go.Extern.Stop Go.Stop Go.Extern

theorem info_mat : (Tryd.prog.info? 46).map (fun i => (i.zero, i.size, i.bytes)) = some (some (.slice none 0 0), 1, 24) := by kernel_rfl

structure RowsV (W : World) (B G n : Nat) (hv : Nat → Value) (f : Nat → List Value) : Prop where
  own : W.ownsRow B 46 1 (.slice (some ⟨G, 0, none⟩) n n) n ((List.range n).map hv)
  row : ∀ r, r < n → W.ownsRow B 39 1 (hv r) (f r).length (f r)
  dist : ∀ r s, r < n → s < n → r ≠ s → (hv r).ownBlock = none ∨ (hv r).ownBlock ≠ (hv s).ownBlock

theorem own_from {w w' : World} {e : TypeId} {v : Value} {k base size : Nat} {xs : List Value} (h : w.ownsRow base e size v k xs) (hs : ∀ g, base ≤ g → g < w.heap.size → w'.heap[g]? = w.heap[g]?) : w'.ownsRow base e size v k xs := by
  refine ⟨h.1, ?_⟩
  rcases h.2 with h1 | ⟨g, cap, cur, h1, h2, h3, h4⟩
  · exact .inl h1
  · exact .inr ⟨g, cap, cur, h1, h2, by rw [hs g h2 (Array.getElem?_eq_some_iff.1 h3).1]; exact h3, h4⟩

section
variable {W W' : World} {B G n : Nat} {hv : Nat → Value} {f f' : Nat → List Value}
theorem RowsV.congr (h : RowsV W B G n hv f) (e : ∀ r, r < n → f r = f' r) : RowsV W B G n hv f' := ⟨h.own, fun r hr => by rw [← e r hr]; exact h.row r hr, h.dist⟩
theorem RowsV.mono (h : RowsV W B G n hv f) (hb : Below W.heap.size W W') : RowsV W' B G n hv f :=
  ⟨owns_kept h.own hb, fun r hr => owns_kept (h.row r hr) hb, h.dist⟩
theorem RowsV.far (h : RowsV W B G n hv f) (hs : ∀ g, B ≤ g → g < W.heap.size → W'.heap[g]? = W.heap[g]?) : RowsV W' B G n hv f :=
  ⟨own_from h.own hs, fun r hr => own_from (h.row r hr) hs, h.dist⟩
theorem RowsV.gheap (h : RowsV W B G n hv f) : B ≤ G ∧ ∃ cur, W.heap[G]? = some (.cells cur 46 (0, 0)) := by
  obtain ⟨h1, h2, h3⟩ := own_full h.own
  exact ⟨h1, _, h3⟩
theorem RowsV.ne_heads (h : RowsV W B G n hv f) {r : Nat} (hr : r < n) : (hv r).ownBlock ≠ some G := by
  obtain ⟨-, cu, hG⟩ := h.gheap
  intro e
  rcases (h.row r hr).2 with ⟨e1, _⟩ | ⟨g', cap, cur, e1, _, hg, _⟩
  · rw [e1] at e; cases e
  · rw [e1] at e
    have : g' = G := by simpa [Value.ownBlock] using e
    rw [this, hG] at hg
    simp at hg
theorem RowsV.slice (h : RowsV W B G n hv f) {r : Nat} (hr : r < n) : ∃ a cap, hv r = .slice a (f r).length cap := by
  rcases (h.row r hr).2 with ⟨e1, e2⟩ | ⟨g', cap, cur, e1, _⟩
  · exact ⟨none, 0, by rw [e1, e2]⟩
  · exact ⟨_, cap, e1⟩
theorem RowsV.head (h : RowsV W B G n hv f) {r : Nat} (hr : r < n) : W.cell? ⟨G, r, none⟩ = some (hv r) := by
  rw [h.own.cellAt r (by omega)]
  simp [hr]
/-- The rows behind an append to row r and the store of its header. -/
theorem RowsV.add (h : RowsV W B G n hv f) {r g cap : Nat} {x : Value} (hr : r < n) (hown : W'.ownsRow B 39 1 (.slice (some ⟨g, 0, none⟩) ((f r).length + 1) cap) ((f r).length + 1) (f r ++ [x]))
    (hg : W.grownBy W' (hv r).ownBlock) (hat : (hv r).ownBlock = some g ∨ W.heap.size ≤ g) :
    RowsV (W'.setCell ⟨G, r, none⟩ (.slice (some ⟨g, 0, none⟩) ((f r).length + 1) cap)) B G n (fun d => if d = r then .slice (some ⟨g, 0, none⟩) ((f r).length + 1) cap else hv d) (fun d => if d = r then f r ++ [x] else f d) := by
  obtain ⟨hBG, cu, hG⟩ := h.gheap
  have hneG : g ≠ G := by
    rcases hat with hat | hat
    · intro e; subst e; exact h.ne_heads hr hat
    · have := (Array.getElem?_eq_some_iff.1 hG).1; omega
  have hG' : W'.heap[G]? = some (.cells cu 46 (0, 0)) := (hg.block G (Array.getElem?_eq_some_iff.1 hG).1 (fun e => h.ne_heads hr e.symm)).trans hG
  have hown1 : W'.ownsRow B 46 1 (.slice (some ⟨G, 0, none⟩) n n) n ((List.range n).map hv) := h.own.kept hg (.inr (fun e => h.ne_heads hr e.symm))
  obtain ⟨s1, s2⟩ := hown1.stored r (.slice (some ⟨g, 0, none⟩) ((f r).length + 1) cap)
  have hkeep : ∀ {v : Value} {q : Nat} {xs : List Value} {B' : Nat}, W'.ownsRow B' 39 1 v q xs → (W'.setCell ⟨G, r, none⟩ (.slice (some ⟨g, 0, none⟩) ((f r).length + 1) cap)).ownsRow B' 39 1 v q xs := fun {v q xs B'} ho => by
    refine ho.kept s2 (.inr fun e => ?_)
    rcases ho.2 with ⟨rfl, _⟩ | ⟨g', c', cur, rfl, _, hg', _⟩
    · simp [Value.ownBlock] at e
    · have : g' = G := by simpa [Value.ownBlock] using e
      rw [this, hG'] at hg'
      simp at hg'
  refine ⟨?_, fun d hd => ?_, fun d e hd he hde => ?_⟩
  · have e : (List.range n).map (fun d => if d = r then Value.slice (some ⟨g, 0, none⟩) ((f r).length + 1) cap else hv d) = ((List.range n).map hv).set r (.slice (some ⟨g, 0, none⟩) ((f r).length + 1) cap) := by
      apply List.ext_getElem
      · simp
      · intro i a1 a2
        simp only [List.getElem_map, List.getElem_range, List.getElem_set]
        by_cases ei : i = r
        · subst ei; simp
        · rw [if_neg ei, if_neg (fun h => ei h.symm)]
    rw [e]; exact s1
  · by_cases ed : d = r
    · subst ed
      simp only [if_true, List.length_append, List.length_singleton]
      exact hkeep hown
    · simp only [if_neg ed]
      refine hkeep ((h.row d hd).kept hg ?_)
      exact h.dist d r hd hr ed
  · have key : ∀ e, e < n → e ≠ r → (hv e).ownBlock = none ∨ (hv e).ownBlock ≠ some g := fun e he her => by
      rcases hat with hat | hat
      · rw [← hat]; exact h.dist e r he hr her
      · right
        intro e'
        have := ((h.row e he).lt g e').2
        omega
    by_cases ed : d = r
    · subst ed
      rw [if_pos rfl, if_neg (fun h => hde h.symm)]
      rcases key e he (fun h => hde h.symm) with k | k
      · right; rw [k]; simp [Value.ownBlock]
      · right; intro e'; exact k e'.symm
    · rw [if_neg ed]
      by_cases ee : e = r
      · subst ee
        rw [if_pos rfl]
        exact key d hd ed
      · rw [if_neg ee]
        exact h.dist d e hd he hde
/-- All rows as a list of lists of values. -/
theorem RowsV.at (h : RowsV W B G n hv f) : MatAt id W (.slice (some ⟨G, 0, none⟩) n n) ((List.range n).map f) := by
  refine ⟨(List.range n).map hv, ListAt.of_owns (f := id) (by rw [List.map_id]; exact h.own), by simp, fun i => ?_⟩
  by_cases hi : i < n
  · have := ListAt.of_owns (f := id) (l := f i) (by rw [List.map_id]; exact h.row i hi)
    simpa [hi] using this
  · rw [List.getD_eq_getElem?_getD, List.getD_eq_getElem?_getD, List.getElem?_eq_none (by simp; omega), List.getElem?_eq_none (by simp; omega)]
    exact ListAt.nil _ _
/-- Rows whose elements are rows of bytes. -/
theorem RowsV.cube (h : RowsV W B G n hv f) {F : Nat → List (List Nat)} (hF : ∀ r, r < n → (f r).length = (F r).length ∧ ∀ k, ListAt byteV W ((f r).getD k nilS) ((F r).getD k [])) : CubeAt byteV W (.slice (some ⟨G, 0, none⟩) n n) ((List.range n).map F) := by
  refine ⟨(List.range n).map hv, ListAt.of_owns (f := id) (by rw [List.map_id]; exact h.own), by simp, fun i => ?_⟩
  by_cases hi : i < n
  · have := ListAt.of_owns (f := id) (l := f i) (by rw [List.map_id]; exact h.row i hi)
    have e1 : ((List.range n).map hv).getD i nilS = hv i := by simp [List.getD_eq_getElem?_getD, hi]
    have e2 : ((List.range n).map F).getD i [] = F i := by simp [List.getD_eq_getElem?_getD, hi]
    rw [e1, e2]
    exact ⟨f i, this, (hF i hi).1, (hF i hi).2⟩
  · rw [List.getD_eq_getElem?_getD, List.getD_eq_getElem?_getD, List.getElem?_eq_none (by simp; omega), List.getElem?_eq_none (by simp; omega)]
    exact MatAt.nil _ _
end

/-- Blocks that stand in memory from a block number on, whatever turns ahead of it. -/
def CubeNew (base : Nat) (w : World) (v : Value) (L : List (List (List Nat))) : Prop :=
  ∀ w' : World, (∀ g, base ≤ g → g < w.heap.size → w'.heap[g]? = w.heap[g]?) → CubeAt byteV w' v L
theorem CubeNew.at {base : Nat} {w : World} {v : Value} {L : List (List (List Nat))} (h : CubeNew base w v L) : CubeAt byteV w v L := h w fun _ _ _ => rfl
end Go.Proofs.YteilneoamhnndaaDoor
