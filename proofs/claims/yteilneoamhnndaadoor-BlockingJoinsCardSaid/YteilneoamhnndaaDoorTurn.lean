/- Bytes of a call's own that are written over: what stands still meanwhile (Turn); rows, matrices, blocks of bytes, as far as they can be walked while that goes on. -/
import Derived.Test.YteilneoamhnndaaDoorBkRows
import Derived.Test.YteilneoamhnndaaDoorSep
namespace Go.Proofs.YteilneoamhnndaaDoor
open Go.RowKit Go.Extern.Stop Go.Stop Go.Extern

structure Turn (B U : Nat) (w w' : World) : Prop where
  os : w'.os = w.os
  tape : w'.tape = w.tape
  output : w'.output = w.output
  size : w'.heap.size = w.heap.size
  blk : ∀ g, w'.heap[g]? = w.heap[g]? ∨ (B ≤ g ∧ g < U ∧ ∃ x : Nat, w.cell? ⟨g, 0, none⟩ = some (byteV x))
  cel : ∀ p u, w.cell? p = some u → (∀ z : Nat, u ≠ byteV z) → w'.cell? p = some u
  byt : ∀ (p : Addr) (x : Nat), w.cell? p = some (byteV x) → x < 256 → ∃ y : Nat, y < 256 ∧ w'.cell? p = some (byteV y)
  frz : ∀ p, w'.frozen? p = w.frozen? p

theorem Turn.refl (B U : Nat) (w : World) : Turn B U w w := ⟨rfl, rfl, rfl, rfl, fun _ => .inl rfl, fun _ _ h _ => h, fun _ x h hx => ⟨x, hx, h⟩, fun _ => rfl⟩
theorem Turn.drew {B U : Nat} {w w' : World} (h : Turn B U w w') : Turn B U w w'.drew := ⟨h.os, h.tape, h.output, h.size, h.blk, h.cel, h.byt, h.frz⟩
theorem Turn.set {B U g k : Nat} {w w' : World} (h : Turn B U w w') {x y z : Nat} (hc : w'.cell? ⟨g, k, none⟩ = some (byteV x)) (h0 : w.cell? ⟨g, 0, none⟩ = some (byteV z)) (hB : B ≤ g) (hU : g < U) (hy : y < 256) : Turn B U w (w'.setCell ⟨g, k, none⟩ (byteV y)) := by
  refine ⟨h.os, h.tape, h.output, by rw [← h.size]; simp [World.setCell], fun g' => ?_, fun p u hp hu => ?_, fun p x' hp hx' => ?_, fun p => by rw [World.frozen?_setCell]; exact h.frz p⟩
  · by_cases e : g' = g
    · subst e; exact .inr ⟨hB, hU, z, h0⟩
    · rw [Below.heap_setCell _ _ _ _ e]; exact h.blk g'
  · have h1 := h.cel p u hp hu
    by_cases e : p = ⟨g, k, none⟩
    · subst e
      rw [hc] at h1
      exact absurd (Option.some.inj h1).symm (hu x)
    · rw [World.cell?_setCell_other _ _ _ _ (fun h => e h.symm)]; exact h1
  · obtain ⟨y', hy', h1⟩ := h.byt p x' hp hx'
    by_cases e : p = ⟨g, k, none⟩
    · subst e
      exact ⟨y, hy, World.cell?_setCell_same' _ _ _ (by rw [hc]; rfl)⟩
    · exact ⟨y', hy', by rw [World.cell?_setCell_other _ _ _ _ (fun h => e h.symm)]; exact h1⟩
theorem Turn.below {B U : Nat} {w w' : World} (h : Turn B U w w') : Below B w w' := ⟨h.os, h.tape, h.output, by rw [h.size]; exact Nat.le_refl _, fun g hg => by
  rcases h.blk g with e | ⟨h1, -⟩
  · exact e
  · omega⟩
theorem Turn.beyond {B U g : Nat} {w w' : World} (h : Turn B U w w') (hg : U ≤ g) : w'.heap[g]? = w.heap[g]? := by
  rcases h.blk g with e | ⟨-, h1, -⟩
  · exact e
  · omega
theorem Turn.err {B U : Nat} {w w' : World} {k : Int} {c : ByteArray} {E : Value} (h : Turn B U w w') (he : ErrAns k c w E) : ErrAns k c w' E :=
  errAns_kept2 he fun b s hc => by
    rcases h.blk b with e | ⟨-, -, x, hx⟩
    · exact e
    · rw [hc] at hx; cases hx

/-- A row of bytes, a row of such rows, blocks of them: where they lie. -/
def RowSh (w : World) (B U : Nat) (x : Value) (r : List Nat) : Prop :=
  ∃ a c, x = .slice a r.length c ∧ r.length ≤ c ∧ c ≤ maxLen ∧ (0 < r.length → ∃ g, a = some ⟨g, 0, none⟩ ∧ B ≤ g ∧ g < U ∧ ∀ j, j < r.length → (∃ y : Nat, y < 256 ∧ w.cell? ⟨g, j, none⟩ = some (byteV y)) ∧ w.frozen? ⟨g, j, none⟩ = false)
def MatSh (w : World) (B U : Nat) (x : Value) (M : List (List Nat)) : Prop :=
  ∃ a c, x = .slice a M.length c ∧ M.length ≤ c ∧ c ≤ maxLen ∧ (0 < M.length → ∃ g, a = some ⟨g, 0, none⟩ ∧ ∀ j, j < M.length → ∃ y, w.cell? ⟨g, j, none⟩ = some y ∧ RowSh w B U y (M.getD j []))
def CubeSh (w : World) (B U : Nat) (x : Value) (C : List (List (List Nat))) : Prop :=
  ∃ a c, x = .slice a C.length c ∧ C.length ≤ c ∧ c ≤ maxLen ∧ (0 < C.length → ∃ g, a = some ⟨g, 0, none⟩ ∧ ∀ j, j < C.length → ∃ y, w.cell? ⟨g, j, none⟩ = some y ∧ MatSh w B U y (C.getD j []))
section
variable {w w' : World} {B U : Nat} {x : Value}
theorem slice_byte (a : Option Addr) (n c : Nat) : ∀ z : Nat, Value.slice a n c ≠ byteV z := fun z h => by cases h
theorem RowSh.turn {r : List Nat} (h : RowSh w B U x r) (ht : Turn B U w w') : RowSh w' B U x r := by
  obtain ⟨a, c, rfl, h1, h2, h3⟩ := h
  refine ⟨a, c, rfl, h1, h2, fun hp => ?_⟩
  obtain ⟨g, rfl, hb, hu, hc⟩ := h3 hp
  refine ⟨g, rfl, hb, hu, fun j hj => ?_⟩
  obtain ⟨⟨y, hy, hyc⟩, hf⟩ := hc j hj
  exact ⟨ht.byt _ y hyc hy, by rw [ht.frz]; exact hf⟩
theorem MatSh.turn {M : List (List Nat)} (h : MatSh w B U x M) (ht : Turn B U w w') : MatSh w' B U x M := by
  obtain ⟨a, c, rfl, h1, h2, h3⟩ := h
  refine ⟨a, c, rfl, h1, h2, fun hp => ?_⟩
  obtain ⟨g, rfl, hc⟩ := h3 hp
  refine ⟨g, rfl, fun j hj => ?_⟩
  obtain ⟨y, hy, hr⟩ := hc j hj
  refine ⟨y, ht.cel _ _ hy ?_, hr.turn ht⟩
  obtain ⟨a', c', rfl, -⟩ := hr
  exact slice_byte _ _ _
theorem CubeSh.turn {C : List (List (List Nat))} (h : CubeSh w B U x C) (ht : Turn B U w w') : CubeSh w' B U x C := by
  obtain ⟨a, c, rfl, h1, h2, h3⟩ := h
  refine ⟨a, c, rfl, h1, h2, fun hp => ?_⟩
  obtain ⟨g, rfl, hc⟩ := h3 hp
  refine ⟨g, rfl, fun j hj => ?_⟩
  obtain ⟨y, hy, hr⟩ := hc j hj
  refine ⟨y, ht.cel _ _ hy ?_, hr.turn ht⟩
  obtain ⟨a', c', rfl, -⟩ := hr
  exact slice_byte _ _ _
theorem RowSh.mono {r : List Nat} (h : RowSh w B U x r) (hb : Below w.heap.size w w') : RowSh w' B U x r := by
  obtain ⟨a, c, rfl, h1, h2, h3⟩ := h
  refine ⟨a, c, rfl, h1, h2, fun hp => ?_⟩
  obtain ⟨g, rfl, hb', hu, hc⟩ := h3 hp
  refine ⟨g, rfl, hb', hu, fun j hj => ?_⟩
  obtain ⟨⟨y, hy, hyc⟩, hf⟩ := hc j hj
  have hl := World.block_lt_of_cell? w _ hyc
  exact ⟨⟨y, hy, (hb.cell (p := ⟨g, j, none⟩) hl).trans hyc⟩, (hb.frozen (p := ⟨g, j, none⟩) hl).trans hf⟩
theorem MatSh.mono {M : List (List Nat)} (h : MatSh w B U x M) (hb : Below w.heap.size w w') : MatSh w' B U x M := by
  obtain ⟨a, c, rfl, h1, h2, h3⟩ := h
  refine ⟨a, c, rfl, h1, h2, fun hp => ?_⟩
  obtain ⟨g, rfl, hc⟩ := h3 hp
  refine ⟨g, rfl, fun j hj => ?_⟩
  obtain ⟨y, hy, hr⟩ := hc j hj
  exact ⟨y, (hb.cell (p := ⟨g, j, none⟩) (World.block_lt_of_cell? w _ hy)).trans hy, hr.mono hb⟩
theorem CubeSh.mono {C : List (List (List Nat))} (h : CubeSh w B U x C) (hb : Below w.heap.size w w') : CubeSh w' B U x C := by
  obtain ⟨a, c, rfl, h1, h2, h3⟩ := h
  refine ⟨a, c, rfl, h1, h2, fun hp => ?_⟩
  obtain ⟨g, rfl, hc⟩ := h3 hp
  refine ⟨g, rfl, fun j hj => ?_⟩
  obtain ⟨y, hy, hr⟩ := hc j hj
  exact ⟨y, (hb.cell (p := ⟨g, j, none⟩) (World.block_lt_of_cell? w _ hy)).trans hy, hr.mono hb⟩
theorem row_shape {r : List Nat} (h : w.ownsRow B 5 1 x r.length (r.map byteV)) (ho : Octets r) : RowSh w B w.heap.size x r := by
  have hm : ∀ a c, x = .slice a r.length c → c ≤ maxLen := fun a c e => by
    rcases h.2 with ⟨e1, _⟩ | ⟨g', cap, cur, e1, _, _, _, hm, _⟩
    · rw [e1] at e; simp at e; rw [← e.2.2]; decide
    · rw [e1] at e; simp at e; rw [← e.2]; exact hm
  obtain ⟨a, c, rfl, hc, ha⟩ := own_open h
  refine ⟨a, c, rfl, hc, hm a c rfl, fun hp => ?_⟩
  obtain ⟨g, rfl⟩ := ha hp
  have hlt := h.lt g rfl
  refine ⟨g, rfl, hlt.1, hlt.2, fun j hj => ⟨⟨r.getD j 0, ho.getD j, ?_⟩, h.frozenAt j⟩⟩
  rw [h.cellAt j (by omega)]
  simp [List.getD_eq_getElem?_getD, hj]
theorem own_slice {e : TypeId} {n : Nat} {xs : List Value} (h : w.ownsRow B e 1 x n xs) : ∃ a c, x = .slice a n c ∧ n ≤ c ∧ c ≤ maxLen ∧ (0 < n → ∃ g, a = some ⟨g, 0, none⟩ ∧ ∀ j, j < n → w.cell? ⟨g, j, none⟩ = some (xs.getD j nilS)) := by
  have hl : xs.length = n := by have := h.1; omega
  have hm : ∀ a c, x = .slice a n c → c ≤ maxLen := fun a c e => by
    rcases h.2 with ⟨e1, _⟩ | ⟨g', cap, cur, e1, _, _, _, hm, _⟩
    · rw [e1] at e; simp at e; rw [← e.2.2]; decide
    · rw [e1] at e; simp at e; rw [← e.2]; exact hm
  obtain ⟨a, c, rfl, hc, ha⟩ := own_open h
  refine ⟨a, c, rfl, hc, hm a c rfl, fun hp => ?_⟩
  obtain ⟨g, rfl⟩ := ha hp
  refine ⟨g, rfl, fun j hj => ?_⟩
  rw [h.cellAt j (by omega)]
  simp [List.getD_eq_getElem?_getD, show j < xs.length by omega]
theorem syms_shape {M : List (List Nat)} (h : SymsAt w B x M) (ho : ∀ r ∈ M, Octets r) : MatSh w B w.heap.size x M := by
  obtain ⟨vs, h1, h2⟩ := h
  obtain ⟨a, c, rfl, hc, hm, ha⟩ := own_slice h1
  refine ⟨a, c, rfl, hc, hm, fun hp => ?_⟩
  obtain ⟨g, rfl, hcell⟩ := ha hp
  exact ⟨g, rfl, fun j hj => ⟨_, hcell j hj, row_shape (h2 j hj) (Octets.row ho j)⟩⟩
/-- Blocks of a call's own. -/
def CubeS (w : World) (B : Nat) (v : Value) (C : List (List (List Nat))) : Prop := ∃ hs : List Value, w.ownsRow B 46 1 v C.length hs ∧ ∀ i, i < C.length → SymsAt w B (hs.getD i nilS) (C.getD i [])
theorem CubeS.shape {C : List (List (List Nat))} (h : CubeS w B x C) (ho : ∀ M ∈ C, ∀ r ∈ M, Octets r) : CubeSh w B w.heap.size x C := by
  obtain ⟨vs, h1, h2⟩ := h
  obtain ⟨a, c, rfl, hc, hm, ha⟩ := own_slice h1
  refine ⟨a, c, rfl, hc, hm, fun hp => ?_⟩
  obtain ⟨g, rfl, hcell⟩ := ha hp
  exact ⟨g, rfl, fun j hj => ⟨_, hcell j hj, syms_shape (h2 j hj) (ho _ (by rw [List.getD_eq_getElem?_getD, List.getElem?_eq_getElem hj]; exact List.getElem_mem hj))⟩⟩
theorem CubeS.at {C : List (List (List Nat))} (h : CubeS w B x C) : CubeAt byteV w x C := by
  obtain ⟨vs, h1, h2⟩ := h
  have hl : vs.length = C.length := by have := h1.1; omega
  refine ⟨vs, ListAt.of_owns (f := id) (l := vs) (show w.ownsRow B 46 1 x vs.length (vs.map id) by rw [List.map_id, hl]; exact h1), hl, fun i => ?_⟩
  by_cases hi : i < C.length
  · exact (h2 i hi).at
  · rw [List.getD_eq_getElem?_getD, List.getElem?_eq_none (by omega), List.getD_eq_getElem?_getD, List.getElem?_eq_none (by omega)]
    exact MatAt.nil _ _
theorem CubeS.mono {C : List (List (List Nat))} (h : CubeS w B x C) (hb : Below w.heap.size w w') : CubeS w' B x C := by
  obtain ⟨vs, h1, h2⟩ := h
  exact ⟨vs, owns_kept h1 hb, fun i hi => (h2 i hi).mono hb⟩
theorem CubeS.snoc {C : List (List (List Nat))} {vs : List Value} {v' y : Value} {M : List (List Nat)} (h1 : w.ownsRow B 46 1 x C.length vs) (h2 : ∀ i, i < C.length → SymsAt w B (vs.getD i nilS) (C.getD i [])) (hy : SymsAt w B y M)
    (ho : w'.ownsRow B 46 1 v' (C.length + 1) (vs ++ [y])) (hg : w.grownBy w' x.ownBlock) : CubeS w' B v' (C ++ [M]) := by
  have hl : vs.length = C.length := by have := h1.1; omega
  refine ⟨vs ++ [y], by rw [List.length_append]; exact ho, fun i hi => ?_⟩
  rw [getD_snoc, getD_snoc, hl]
  by_cases e : i < C.length
  · rw [if_pos e, if_pos e]; exact (h2 i e).grown h1 hg ⟨by decide, by decide⟩
  · have e2 : i = C.length := by rw [List.length_append, List.length_singleton] at hi; omega
    rw [if_neg e, if_neg e, if_pos e2, if_pos e2]
    exact hy.grown h1 hg ⟨by decide, by decide⟩
end
end Go.Proofs.YteilneoamhnndaaDoor
