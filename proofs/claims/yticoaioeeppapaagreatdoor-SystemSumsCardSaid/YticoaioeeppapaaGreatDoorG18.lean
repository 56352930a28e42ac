import Derived.Test.YticoaioeeppapaaGreatDoorG07
import Derived.Test.YticoaioeeppapaaGreatDoorG06
import Derived.OwnWalk
import Derived.WalkSpells
import Derived.WalkLawsBesides
import Derived.Deep.LoopGhost
import Derived.Test.YticoaioeeppapaaGreatDoorG02
import Derived.Test.YticoaioeeppapaaGreatDoorG10
import Derived.Deep.AppendLies
import Derived.Deep.RegionLaw
import Derived.Maps.AppendAt

section
/- A list of rows of the call's own, each row in memory of the call's own (MatFresh). -/
namespace Go.Proofs.YticoaioeeppapaaGreatDoor
open Go.RowKit Go.Extern.Stop Go.Stop Go.Extern

def MatFresh {α : Type} (f : α → Value) (te : TypeId) (base : Nat) (e : TypeId) (w : World) (v : Value) (L : List (List α)) : Prop :=
  ∃ vs : List Value, w.ownsRow base e 1 v L.length vs ∧ (∀ i, ElAt f te base w (vs.getD i nilS) (L.getD i [])) ∧ ∀ x ∈ vs, ∀ b, x.ownBlock = some b → base ≤ b

theorem own_ge {g base n c : Nat} (h : base ≤ g) : ∀ b, (Value.slice (some ⟨g, 0, none⟩) n c).ownBlock = some b → base ≤ b := by
  intro b hb
  have e : g = b := by simpa [Value.ownBlock] using hb
  omega

section
variable {α : Type} {f : α → Value} {w w2 wr : World} {v v2 x : Value} {L : List (List α)} {te e : TypeId} {base : Nat} {r : List α} {vs : List Value}

theorem MatFresh.own (h : MatFresh f te base e w v L) : MatOwn f te base e w v L := by
  obtain ⟨vs, h1, h2, -⟩ := h
  exact ⟨vs, h1, h2⟩
theorem MatFresh.empty (w : World) : MatFresh f te base e w (.slice none 0 0) [] :=
  ⟨[], World.ownsRow_nil _ _ _ _, fun i => by simpa using ElAt.nil f te base _, fun x hx => by simp at hx⟩
theorem MatFresh.app {o : Obj} (hfr : ∀ x ∈ vs, ∀ b, x.ownBlock = some b → base ≤ b) (hxb : ∀ b, x.ownBlock = some b → base ≤ b) (hne : e ≠ te) (hown : w.ownsRow base e 1 v L.length vs) (hel : ∀ i, ElAt f te base w (vs.getD i nilS) (L.getD i [])) (hx : ElAt f te base w x r)
    (hown' : w2.ownsRow base e 1 v2 (L.length + 1) (vs ++ [x])) (hg : (w.alloc o).grownBy w2 v.ownBlock) : MatFresh f te base e w2 v2 (L ++ [r]) := by
  have hb : Below w.heap.size w (w.alloc o) := (Below.refl _ _).alloc (Nat.le_refl _) _
  have hl : vs.length = L.length := by have := hown.1; omega
  refine ⟨vs ++ [x], by rw [List.length_append]; exact hown', fun i => ?_, fun y hy b hyb => ?_⟩
  · rw [getD_snoc, getD_snoc, hl]
    by_cases h : i < L.length
    · rw [if_pos h, if_pos h]; exact ((hel i).mono hb).grown hne (hown.alloc o) hg
    · rw [if_neg h, if_neg h]
      by_cases h2 : i = L.length
      · rw [if_pos h2, if_pos h2]; exact (hx.mono hb).grown hne (hown.alloc o) hg
      · rw [if_neg h2, if_neg h2]; exact ElAt.nil f te base _
  · rcases List.mem_append.1 hy with h | h
    · exact hfr y h b hyb
    · rw [List.mem_singleton.1 h] at hyb; exact hxb b hyb
/-- What is written into a row that is older leaves it as it reads. -/
theorem MatFresh.at_kept {row : Option Nat} (h : MatFresh f te base e w v L) (hg : w.grownBy wr row) (hr : ∀ b, row = some b → b < base) : MatAt f wr v L := by
  obtain ⟨vs, h1, h2, h3⟩ := h
  have hl : vs.length = L.length := by have := h1.1; omega
  have hv : v.ownBlock = none ∨ v.ownBlock ≠ row := by
    cases hb : v.ownBlock with
    | none => exact .inl rfl
    | some k =>
      refine .inr fun e => ?_
      have := (h1.lt k hb).1
      have := hr k e.symm
      omega
  refine ⟨vs, ListAt.of_owns (n := L.length) (by rw [List.map_id]; exact h1.kept hg hv), hl, fun i => ?_⟩
  obtain ⟨a, cap, e1, h4, h5, h6⟩ := (h2 i).1
  refine ⟨a, cap, e1, h4, h5, fun hp => ?_⟩
  obtain ⟨b, off, rfl, hc⟩ := h6 hp
  have hi : i < vs.length := by
    apply Nat.lt_of_not_le
    intro hle
    rw [List.getD_eq_getElem?_getD (l := L), List.getElem?_eq_none (by omega)] at hp
    simp at hp
  have hbb : base ≤ b := h3 (vs.getD i nilS) (by rw [List.getD_eq_getElem?_getD, List.getElem?_eq_getElem hi]; exact List.getElem_mem hi) b (by rw [e1]; rfl)
  refine ⟨b, off, rfl, fun j hj => ?_⟩
  have hx := hc j hj
  rw [World.cell?_of_block (w := w) (a := ⟨b, off + j, none⟩) (hg.block b (World.block_lt_of_cell? w _ hx) (fun e => by have := hr b e.symm; omega))]
  exact hx
end

theorem MatFresh.mono {α : Type} {f : α → Value} {w w' : World} {te e : TypeId} {base : Nat} {v : Value} {L : List (List α)} (h : MatFresh f te base e w v L) (hb : Below w.heap.size w w') : MatFresh f te base e w' v L := by
  obtain ⟨vs, h1, h2, h3⟩ := h
  exact ⟨vs, owns_kept h1 hb, fun i => (h2 i).mono hb, h3⟩
theorem MatFresh.start {α : Type} {f : α → Value} {te e : TypeId} {base : Nat} (w : World) (hb : base ≤ w.heap.size) : MatFresh f te base e (w.alloc (.cells #[] e)) (.slice (some ⟨w.heap.size, 0, none⟩) 0 0) [] :=
  ⟨[], World.ownsRow_made (base := base) (e := e) (size := 1) w #[] 0 hb (by decide) rfl, fun i => by simpa using ElAt.nil f te base _, fun x hx => by simp at hx⟩
theorem MatFresh.below {α : Type} {f : α → Value} {w : World} {te e : TypeId} {base base' : Nat} {v : Value} {L : List (List α)} (h : MatFresh f te base e w v L) (hb : base' ≤ base) : MatFresh f te base' e w v L := by
  obtain ⟨vs, h1, h2, h3⟩ := h
  refine ⟨vs, ownsRow_base h1 hb, fun i => ⟨(h2 i).1, fun hp b hx => ?_⟩, fun x hx b hxb => Nat.le_trans hb (h3 x hx b hxb)⟩
  rcases (h2 i).2 hp b hx with h4 | h4
  · by_cases hi : i < vs.length
    · have e1 : vs.getD i nilS = vs[i] := by simp [List.getD_eq_getElem?_getD, hi]
      have := h3 _ (List.getElem_mem hi) b (by rw [← e1]; exact hx)
      omega
    · rw [List.getD_eq_getElem?_getD, List.getElem?_eq_none (by omega)] at hx
      cases hx
  · exact .inr h4
end Go.Proofs.YticoaioeeppapaaGreatDoor
end

section
/- Package geyserref02: Unpack. -/
namespace Go.Proofs.YticoaioeeppapaaGreatDoor
open Go.RowKit Go.Extern.Stop Go.Stop Go.Extern

def colV (c : Nat) : Value := .int .i64 (c : Int)

theorem ListAt.cols {w : World} {v : Value} {l : List Nat} (h : ListAt colV w v l) : ListAt intV w v (l.map Int.ofNat) := by
  obtain ⟨a, cap, rfl, hc, hm, h⟩ := h
  refine ⟨a, cap, by simp, by simpa using hc, hm, fun hp => ?_⟩
  obtain ⟨b, off, rfl, hcell⟩ := h (by simpa using hp)
  refine ⟨b, off, rfl, fun j hj => ?_⟩
  rw [hcell j (by simpa using hj)]
  simp [intV, colV]

end Go.Proofs.YticoaioeeppapaaGreatDoor
end

section
/- Package precode: the closure that adds a place to a row; rows of the call's own in blocks of their own. -/
namespace Go.Proofs.YticoaioeeppapaaGreatDoor
open Go.RowKit Go.Extern.Stop Go.Stop Go.Extern

theorem info_ints : (Tryz.prog.info? 24).map (fun i => (i.zero, i.size, i.bytes)) = some (some (.slice none 0 0), 1, 24) := by kernel_rfl

/-- n rows of the call's own: a block of their headers, behind a box; each row in a block of its own. -/
structure RowsM (W : World) (B bx G n : Nat) (vs : Nat → Value) (f : Nat → List Nat) : Prop where
  box : W.heap[bx]? = some (.cells #[.slice (some ⟨G, 0, none⟩) n n] 76 (0, 0))
  own : W.ownsRow B 24 1 (.slice (some ⟨G, 0, none⟩) n n) n ((List.range n).map vs)
  row : ∀ r, r < n → W.ownsRow B 3 1 (vs r) (f r).length ((f r).map colV)
  dist : ∀ r s, r < n → s < n → r ≠ s → (vs r).ownBlock = none ∨ (vs r).ownBlock ≠ (vs s).ownBlock
  le : B ≤ bx

section
variable {W W' : World} {B bx G n : Nat} {vs : Nat → Value} {f g : Nat → List Nat}
theorem RowsM.congr (h : RowsM W B bx G n vs f) (e : ∀ r, r < n → f r = g r) : RowsM W B bx G n vs g := ⟨h.box, h.own, fun r hr => by rw [← e r hr]; exact h.row r hr, h.dist, h.le⟩
theorem RowsM.mono (h : RowsM W B bx G n vs f) (hb : Below W.heap.size W W') : RowsM W' B bx G n vs f :=
  ⟨(hb.block bx (Array.getElem?_eq_some_iff.1 h.box).1).trans h.box, owns_kept h.own hb, fun r hr => owns_kept (h.row r hr) hb, h.dist, h.le⟩
theorem RowsM.gheap (h : RowsM W B bx G n vs f) : B ≤ G ∧ ∃ cur, W.heap[G]? = some (.cells cur 24 (0, 0)) := by
  obtain ⟨h1, h2, h3⟩ := own_full h.own
  exact ⟨h1, _, h3⟩
theorem RowsM.ne_box (h : RowsM W B bx G n vs f) {r : Nat} (hr : r < n) : (vs r).ownBlock ≠ some bx := by
  intro e
  rcases (h.row r hr).2 with ⟨e1, _⟩ | ⟨g', cap, cur, e1, _, hg, _⟩
  · rw [e1] at e; cases e
  · rw [e1] at e
    have : g' = bx := by simpa [Value.ownBlock] using e
    rw [this, h.box] at hg
    simp at hg
theorem RowsM.ne_heads (h : RowsM W B bx G n vs f) {r : Nat} (hr : r < n) : (vs r).ownBlock ≠ some G := by
  obtain ⟨-, cu, hG⟩ := h.gheap
  intro e
  rcases (h.row r hr).2 with ⟨e1, _⟩ | ⟨g', cap, cur, e1, _, hg, _⟩
  · rw [e1] at e; cases e
  · rw [e1] at e
    have : g' = G := by simpa [Value.ownBlock] using e
    rw [this, hG] at hg
    simp at hg
theorem RowsM.bG (h : RowsM W B bx G n vs f) : bx ≠ G := by
  obtain ⟨-, cu, hG⟩ := h.gheap
  intro e
  have := h.box
  rw [e, hG] at this
  simp at this
theorem RowsM.slice (h : RowsM W B bx G n vs f) {r : Nat} (hr : r < n) : ∃ a cap, vs r = .slice a (f r).length cap := by
  rcases (h.row r hr).2 with ⟨e1, e2⟩ | ⟨g', cap, cur, e1, _⟩
  · exact ⟨none, 0, by rw [e1, e2]⟩
  · exact ⟨_, cap, e1⟩
theorem RowsM.head (h : RowsM W B bx G n vs f) {r : Nat} (hr : r < n) : W.cell? ⟨G, r, none⟩ = some (vs r) := by
  rw [h.own.cellAt r (by omega)]
  simp [hr]
/-- The rows behind an append to row r and the store of its header. -/
theorem RowsM.add (h : RowsM W B bx G n vs f) {r x g cap : Nat} (hr : r < n) (hown : W'.ownsRow B 3 1 (.slice (some ⟨g, 0, none⟩) ((f r).length + 1) cap) ((f r).length + 1) ((f r).map colV ++ [colV x]))
    (hg : W.grownBy W' (vs r).ownBlock) (hat : (vs r).ownBlock = some g ∨ W.heap.size ≤ g) :
    RowsM (W'.setCell ⟨G, r, none⟩ (.slice (some ⟨g, 0, none⟩) ((f r).length + 1) cap)) B bx G n (fun d => if d = r then .slice (some ⟨g, 0, none⟩) ((f r).length + 1) cap else vs d) (addAt f r x) := by
  obtain ⟨hBG, cu, hG⟩ := h.gheap
  have hneG : g ≠ G := by
    rcases hat with hat | hat
    · intro e; subst e; exact h.ne_heads hr hat
    · have := (Array.getElem?_eq_some_iff.1 hG).1; omega
  have hG' : W'.heap[G]? = some (.cells cu 24 (0, 0)) := (hg.block G (Array.getElem?_eq_some_iff.1 hG).1 (fun e => h.ne_heads hr e.symm)).trans hG
  have hown1 : W'.ownsRow B 24 1 (.slice (some ⟨G, 0, none⟩) n n) n ((List.range n).map vs) := h.own.kept hg (.inr (fun e => h.ne_heads hr e.symm))
  obtain ⟨s1, s2⟩ := hown1.stored r (.slice (some ⟨g, 0, none⟩) ((f r).length + 1) cap)
  have hkeep : ∀ {v : Value} {q : Nat} {xs : List Value} {B' : Nat}, W'.ownsRow B' 3 1 v q xs → (W'.setCell ⟨G, r, none⟩ (.slice (some ⟨g, 0, none⟩) ((f r).length + 1) cap)).ownsRow B' 3 1 v q xs := fun {v q xs B'} ho => by
    refine ho.kept s2 (.inr fun e => ?_)
    rcases ho.2 with ⟨rfl, _⟩ | ⟨g', c', cur, rfl, _, hg', _⟩
    · simp [Value.ownBlock] at e
    · have : g' = G := by simpa [Value.ownBlock] using e
      rw [this, hG'] at hg'
      simp at hg'
  refine ⟨?_, ?_, fun d hd => ?_, fun d e hd he hde => ?_, h.le⟩
  · rw [Below.heap_setCell _ _ _ _ h.bG, hg.block bx (Array.getElem?_eq_some_iff.1 h.box).1 (fun e => h.ne_box hr e.symm)]
    exact h.box
  · have e : (List.range n).map (fun d => if d = r then Value.slice (some ⟨g, 0, none⟩) ((f r).length + 1) cap else vs d) = ((List.range n).map vs).set r (.slice (some ⟨g, 0, none⟩) ((f r).length + 1) cap) := by
      apply List.ext_getElem
      · simp
      · intro i a1 a2
        simp only [List.getElem_map, List.getElem_range, List.getElem_set]
        by_cases ei : i = r
        · subst ei; simp
        · rw [if_neg ei, if_neg (fun h => ei h.symm)]
    rw [e]; exact s1
  · by_cases ed : d = r
    · subst ed
      unfold addAt
      rw [if_pos rfl, if_pos rfl, List.length_append, List.map_append]
      exact hkeep hown
    · unfold addAt
      rw [if_neg ed, if_neg ed]
      refine hkeep ((h.row d hd).kept hg ?_)
      exact h.dist d r hd hr ed
  · have key : ∀ e, e < n → e ≠ r → (vs e).ownBlock = none ∨ (vs e).ownBlock ≠ some g := fun e he her => by
      rcases hat with hat | hat
      · rw [← hat]; exact h.dist e r he hr her
      · right
        intro e'
        have := ((h.row e he).lt g e').2
        omega
    by_cases ed : d = r
    · subst ed
      rw [if_pos rfl, if_neg (fun h => hde h.symm)]
      rcases key e he (fun h => hde h.symm) with k | k
      · right; rw [k]; simp [Value.ownBlock]
      · right; intro e'; exact k e'.symm
    · rw [if_neg ed]
      by_cases ee : e = r
      · subst ee
        rw [if_pos rfl]
        exact key d hd ed
      · rw [if_neg ee]
        exact h.dist d e hd he hde
/-- All rows as a list. -/
theorem RowsM.at (h : RowsM W B bx G n vs f) : MatAt colV W (.slice (some ⟨G, 0, none⟩) n n) ((List.range n).map f) := by
  refine ⟨(List.range n).map vs, ListAt.of_owns (f := id) (by rw [List.map_id]; exact h.own), by simp, fun i => ?_⟩
  by_cases hi : i < n
  · simpa [hi] using ListAt.of_owns (h.row i hi)
  · rw [List.getD_eq_getElem?_getD, List.getD_eq_getElem?_getD, List.getElem?_eq_none (by simp; omega), List.getElem?_eq_none (by simp; omega)]
    exact ListAt.nil _ _
end

set_option maxRecDepth 1000000 in
set_option maxHeartbeats 4000000 in
theorem padd_any {w : World} (B bx G n r x : Nat) (vs : Nat → Value) (f : Nat → List Nat) (h : RowsM w B bx G n vs f) (hr : r < n) (hl : ∀ d, (f d).length ≤ 100000) (hB : B ≤ w.heap.size) :
    Calls Tryz.prog 116 #[.int .i64 (r : Int), .int .i64 (x : Int), .pointer (some ⟨bx, 0, none⟩)] w fun e w' => (∃ v, e = .returned v) ∧ (∃ vs', RowsM w' B bx G n vs' (addAt f r x) ∧ (∀ b, b < w.heap.size → b ≠ G → (∀ d, d < n → (vs d).ownBlock ≠ some b) → w'.heap[b]? = w.heap[b]? ∧ ∀ d, d < n → (vs' d).ownBlock ≠ some b)) ∧ Below B w w' := by
  obtain ⟨i0, hi0, hz0, hz1, hz2⟩ := info_parts info_int
  have hb0 := cell_of_heap (j := 0) (u := .slice (some ⟨G, 0, none⟩) n n) h.box rfl
  have hrow := h.head hr
  have hfr : w.frozen? ⟨G, r, none⟩ = false := h.own.frozenAt r
  obtain ⟨a, cap, hv⟩ := h.slice hr
  have hlr := hl r
  have HM := Lib.hid h
  have HV := Lib.hid hv
  rw [hv] at hrow
  have HO := Lib.hid (h.row r hr)
  have HEND : Hid (∀ (g c : Nat) (w2 : World), w2.ownsRow B 3 1 (.slice (some ⟨g, 0, none⟩) ((f r).length + 1) c) ((f r).length + 1) ((f r).map colV ++ [colV x]) → ((w.alloc (.cells #[.int .i64 (x : Int)] 3)).drew).grownBy w2 (vs r).ownBlock → ((vs r).ownBlock = some g ∨ g = w.heap.size + 1) →
      ((∃ vs', RowsM (w2.setCell ⟨G, r, none⟩ (.slice (some ⟨g, 0, none⟩) ((f r).length + 1) c)) B bx G n vs' (addAt f r x) ∧ (∀ b, b < w.heap.size → b ≠ G → (∀ d, d < n → (vs d).ownBlock ≠ some b) → (w2.setCell ⟨G, r, none⟩ (.slice (some ⟨g, 0, none⟩) ((f r).length + 1) c)).heap[b]? = w.heap[b]? ∧ ∀ d, d < n → (vs' d).ownBlock ≠ some b)) ∧ Below B w (w2.setCell ⟨G, r, none⟩ (.slice (some ⟨g, 0, none⟩) ((f r).length + 1) c))) ∧
      w2.cell? ⟨bx, 0, none⟩ = some (.slice (some ⟨G, 0, none⟩) n n) ∧ w2.cell? ⟨G, r, none⟩ = some (.slice a (f r).length cap) ∧ w2.frozen? ⟨G, r, none⟩ = false) :=
    Lib.hid fun g c w2 h1 h2 h3 => by
      have hbel : Below w.heap.size w ((w.alloc (.cells #[.int .i64 (x : Int)] 3)).drew) := ((Below.refl _ _).alloc (Nat.le_refl _) _).drew
      have h' := h.mono hbel
      refine ⟨⟨⟨_, h'.add hr h1 h2 (h3.imp id (fun e => by simp; omega)), fun b hb hbG hbv => ⟨?_, fun d hd => ?_⟩⟩, ((hbel.mono hB).grown h2 (by simp; omega) (fun k hk => ((h'.row r hr).lt k hk).1)).setCell (p := ⟨G, r, none⟩) h.gheap.1 _⟩, ?_, ?_, ?_⟩
      · rw [Below.heap_setCell _ _ _ _ hbG, h2.block b (by simp; omega) (fun e => hbv r hr e.symm)]
        exact hbel.block b hb
      · by_cases ed : d = r
        · rw [if_pos ed]
          intro e
          have e' : g = b := by simpa [Value.ownBlock] using e
          rcases h3 with h3 | h3
          · exact hbv r hr (by rw [← e']; exact h3)
          · omega
        · rw [if_neg ed]; exact hbv d hd
      · exact cell_of_heap ((h2.block bx (Array.getElem?_eq_some_iff.1 h'.box).1 (fun e => h'.ne_box hr e.symm)).trans h'.box) rfl
      · rw [World.cell?_of_block (w := (w.alloc (.cells #[.int .i64 (x : Int)] 3)).drew) (a := ⟨G, r, none⟩) (h2.block G (h'.own.lt G rfl).2 (fun e => h'.ne_heads hr e.symm)), h'.head hr, hv]
      · rw [World.frozen?_of_block (w := (w.alloc (.cells #[.int .i64 (x : Int)] 3)).drew) (a := ⟨G, r, none⟩) (h2.block G (h'.own.lt G rfl).2 (fun e => h'.ne_heads hr e.symm))]
        exact h'.own.frozenAt r
  have HO2 : Hid (((w.alloc (.cells #[.int .i64 (x : Int)] 3)).drew).ownsRow B 3 1 (vs r) (f r).length ((f r).map colV)) := Lib.hid ((h.mono (((Below.refl _ _).alloc (Nat.le_refl _) _).drew)).row r hr)
  have hb0a := (h.mono ((Below.refl _ _).alloc (Nat.le_refl _) (.cells #[.int .i64 (x : Int)] 3))).box
  have hb0a := cell_of_heap (j := 0) (u := .slice (some ⟨G, 0, none⟩) n n) hb0a rfl
  have hrowa := (h.mono ((Below.refl _ _).alloc (Nat.le_refl _) (.cells #[.int .i64 (x : Int)] 3))).head hr
  have hfra : (w.alloc (.cells #[.int .i64 (x : Int)] 3)).frozen? ⟨G, r, none⟩ = false := (h.mono ((Below.refl _ _).alloc (Nat.le_refl _) (.cells #[.int .i64 (x : Int)] 3))).own.frozenAt r
  rw [hv] at HO2
  rw [hv] at HEND
  rw [hv] at hrowa
  clear h hv hl
  generalize (f r).length = q at *
  generalize (f r).map colV = Q at *
  go_enter Tryz.func116, Tryz.ntmps116
  go_wp2_with fail
  go_region_law (first
    | (refine step_append_lies _ rfl (.tmp 10) (.tmp 12) 24 rfl B 3 i0 (.int .i64 0) 1 8 Tryz.underlying24 hi0 hz0 hz1 hz2 rfl (by decide) (.slice a q cap) q Q (by simp [Act.eval]) HO2.out ⟨w.heap.size, 0, none⟩ 1 1 [.int .i64 (x : Int)] (by simp [Act.eval]) rfl (fun j u hu => cell_one_new w _ _ j u hu) (fun x hx => by simp at hx; subst hx; rfl) (by decide) (by unfold maxLen; omega) (by omega) (by simp; omega) (w.heap.size + 1) (by simp) ?_; intro g2 c2 w2 hown1 hgrow1 hat1 _; obtain ⟨⟨hE1, hE2⟩, hc1, hc2, hc3⟩ := HEND.out g2 c2 w2 hown1 hgrow1 hat1; have HE1 := Lib.hid hE1; have HE2 := Lib.hid hE2; clear hown1 hgrow1 hat1 hE1 hE2))
  all_goals
    go_wp2
    go_end0
    exact ⟨⟨_, rfl⟩, HE1.out, HE2.out⟩
end Go.Proofs.YticoaioeeppapaaGreatDoor
end
