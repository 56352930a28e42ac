import Derived.Test.YtmihpbdgilmdiaaWrBox
import Derived.BigQuiet
import Derived.Deep.Cut
import Derived.Test.YtmihpbdgilmdiaaSyMath
import Derived.OwnWalk
import Derived.Deep.AppendLies
import Derived.Deep.RegionLaw
import Derived.Laws.AppendOwnNone

section
/- The document's numbers with their ranges: lists of structs of four ints; are they in their ranges? (layer 16) -/
namespace Go.Proofs.Ytmihpbdgilmdiaa
open Go.RowKit Go.Extern.Stop Go.Stop Go.Extern

/-- A number, how many bytes it has, from where, to where. -/
abbrev Num4 := Int × Int × Int × Int
def noNum : Num4 := (0, 0, 0, 0)
def NumsAt (W : World) (v : Value) (L : List Num4) : Prop :=
  ∃ b, v = .slice (some ⟨b, 0, none⟩) L.length L.length ∧ ∀ j, j < L.length →
    W.cell? ⟨b, j * 4, none⟩ = some (.int .i64 (L.getD j noNum).1) ∧ W.cell? ⟨b, j * 4 + 1, none⟩ = some (.int .i64 (L.getD j noNum).2.1) ∧
    W.cell? ⟨b, j * 4 + 2, none⟩ = some (.int .i64 (L.getD j noNum).2.2.1) ∧ W.cell? ⟨b, j * 4 + 3, none⟩ = some (.int .i64 (L.getD j noNum).2.2.2)
theorem NumsAt.mono {W W' : World} {v : Value} {L : List Num4} (h : NumsAt W v L) (hb : Below W.heap.size W W') : NumsAt W' v L := by
  obtain ⟨b, rfl, hc⟩ := h
  refine ⟨b, rfl, fun j hj => ?_⟩
  obtain ⟨c0, c1, c2, c3⟩ := hc j hj
  have hl := World.block_lt_of_cell? W _ c0
  exact ⟨(hb.cell (p := ⟨b, j * 4, none⟩) hl).trans c0, (hb.cell (p := ⟨b, j * 4 + 1, none⟩) hl).trans c1, (hb.cell (p := ⟨b, j * 4 + 2, none⟩) hl).trans c2, (hb.cell (p := ⟨b, j * 4 + 3, none⟩) hl).trans c3⟩

/-- Is each in its range? -/
def FitN (x : Num4) : Prop := x.2.2.1 ≤ x.1 ∧ x.1 ≤ x.2.2.2
instance (x : Num4) : Decidable (FitN x) := by unfold FitN; infer_instance
def FitL (L : List Num4) : Prop := ∀ x ∈ L, FitN x
instance (L : List Num4) : Decidable (FitL L) := by unfold FitL; infer_instance
theorem fitL_get {L : List Num4} {j : Nat} (hj : j < L.length) (h : FitL L) : FitN (L.getD j noNum) := by
  rw [List.getD_eq_getElem?_getD, List.getElem?_eq_getElem hj]
  exact h _ (List.getElem_mem hj)
theorem fitL_all {L : List Num4} (h : ∀ j, j < L.length → FitN (L.getD j noNum)) : FitL L := fun x hx => by
  obtain ⟨j, hj, rfl⟩ := List.mem_iff_getElem.1 hx
  have := h j hj
  rwa [List.getD_eq_getElem?_getD, List.getElem?_eq_getElem hj] at this

end Go.Proofs.Ytmihpbdgilmdiaa
end

section
/- The document's lists of a packet's numbers: head, data, announce (layer 16). -/
namespace Go.Proofs.Ytmihpbdgilmdiaa
open Go.RowKit Go.Extern.Stop Go.Stop Go.Extern

def flatN : List Num4 → List Value
  | [] => []
  | x :: L => .int .i64 x.1 :: .int .i64 x.2.1 :: .int .i64 x.2.2.1 :: .int .i64 x.2.2.2 :: flatN L
theorem flatN_get : ∀ (L : List Num4) (j : Nat), j < L.length → (flatN L)[j * 4]? = some (.int .i64 (L.getD j noNum).1) ∧ (flatN L)[j * 4 + 1]? = some (.int .i64 (L.getD j noNum).2.1) ∧
    (flatN L)[j * 4 + 2]? = some (.int .i64 (L.getD j noNum).2.2.1) ∧ (flatN L)[j * 4 + 3]? = some (.int .i64 (L.getD j noNum).2.2.2)
  | [], j, h => by simp at h
  | x :: L, 0, _ => ⟨rfl, rfl, rfl, rfl⟩
  | x :: L, j + 1, h => by
    have := flatN_get L j (by simpa using h)
    rw [show (j + 1) * 4 = j * 4 + 1 + 1 + 1 + 1 by omega]
    exact this
theorem nums_new (w : World) (L : List Num4) (T : TypeId) : NumsAt (w.alloc (.cells (flatN L).toArray T)) (.slice (some ⟨w.heap.size, 0, none⟩) L.length L.length) L := by
  refine ⟨_, rfl, fun j hj => ?_⟩
  obtain ⟨h0, h1, h2, h3⟩ := flatN_get L j hj
  have hh := heap_alloc_new w (.cells (flatN L).toArray T)
  exact ⟨cell_of_heap hh (by simpa using h0), cell_of_heap hh (by simpa using h1), cell_of_heap hh (by simpa using h2), cell_of_heap hh (by simpa using h3)⟩

def headN (p : Pkt) : List Num4 := [(p.kind, 1, 1, 2), (p.session, 2, 0, 65535), (p.layer, 1, 0, 7), (p.tick, 5, 0, 1099511627775)]
def dataN (p : Pkt) : List Num4 := [(p.sync + 1, 1, 0, 8), (p.many, 2, 1, 4096), (p.place, 2, 0, IntKind.i64.wrap (p.many - 1)), (p.block, 1, 0, 15), (p.esi, 2, 0, 65535)]
def annN (p : Pkt) : List Num4 := [(p.size, 4, -9223372036854775808, 4294967295), (p.layers, 1, 1, 8), (p.esis, 2, 1, 65536), (p.base, 2, 2, 4096), (p.length, 2, 1, p.base - 1)]

end Go.Proofs.Ytmihpbdgilmdiaa
end

section
/- The document's lay, all: numbers' bytes, the highest one first (layer 16). -/
namespace Go.Proofs.Ytmihpbdgilmdiaa
open Go.RowKit Go.Extern.Stop Go.Stop Go.Extern

theorem rep_set (j x : Nat) (s : List Nat) : (List.replicate (j + 1) 0 ++ s).set j x = List.replicate j 0 ++ (x :: s) := by
  apply List.ext_getElem?
  intro k
  rw [List.getElem?_set]
  rcases Nat.lt_trichotomy k j with h | h | h
  · rw [if_neg (by omega), List.getElem?_append_left (by simp; omega), List.getElem?_append_left (by simp; omega), List.getElem?_replicate, List.getElem?_replicate, if_pos (by omega), if_pos h]
  · subst h
    rw [if_pos rfl, if_pos (by simp; omega), List.getElem?_append_right (by simp)]
    simp
  · rw [if_neg (by omega), List.getElem?_append_right (by simp; omega), List.getElem?_append_right (by simp; omega)]
    simp only [List.length_replicate]
    rw [show k - j = (k - (j + 1)) + 1 by omega]
    rfl

theorem own_cells {w : World} {base g n c : Nat} {e : TypeId} {xs : List Value} (h : w.ownsRow base e 1 (.slice (some ⟨g, 0, none⟩) n c) n xs) (hl : xs.length = n) : ∀ (t : Nat) (u : Value), xs[t]? = some u → w.cell? (Addr.add ⟨g, 0, none⟩ t) = some u := fun t u hu => by
  have ht : t < xs.length := (List.getElem?_eq_some_iff.1 hu).1
  rw [show Addr.add ⟨g, 0, none⟩ t = ⟨g, 0 + t, none⟩ from Go.WideShapes.add_plain .., Nat.zero_add, h.cellAt t (by omega)]
  exact hu

/-- numbers' bytes -/
def bytesN (L : List Num4) : List Nat := (L.map fun x => beN x.2.1.toNat x.1.toNat).flatten
theorem bytesN_take (L : List Num4) (j : Nat) (h : j < L.length) : bytesN (L.take (j + 1)) = bytesN (L.take j) ++ beN (L.getD j noNum).2.1.toNat (L.getD j noNum).1.toNat := by
  unfold bytesN
  rw [List.take_add_one, List.getElem?_eq_getElem h, List.map_append, List.flatten_append, List.getD_eq_getElem?_getD, List.getElem?_eq_getElem h]
  simp
theorem bytesN_octets (L : List Num4) : Octets (bytesN L) := fun x hx => by
  obtain ⟨r, hr, hx⟩ := List.mem_flatten.1 hx
  obtain ⟨y, -, rfl⟩ := List.mem_map.1 hr
  exact beN_octets _ _ x hx
/-- numbers that can be laid -/
def LayL (L : List Num4) : Prop := ∀ x ∈ L, (0 ≤ x.1 ∧ x.1 ≤ 9223372036854775807) ∧ 1 ≤ x.2.1 ∧ x.2.1 ≤ 8
theorem layL_get {L : List Num4} (h : LayL L) {j : Nat} (hj : j < L.length) : (0 ≤ (L.getD j noNum).1 ∧ (L.getD j noNum).1 ≤ 9223372036854775807) ∧ 1 ≤ (L.getD j noNum).2.1 ∧ (L.getD j noNum).2.1 ≤ 8 := by
  rw [List.getD_eq_getElem?_getD, List.getElem?_eq_getElem hj]
  exact h _ (List.getElem_mem hj)
theorem bytesN_le {L : List Num4} (h : LayL L) (j : Nat) : (bytesN (L.take j)).length ≤ 8 * j := by
  induction j with
  | zero => simp [bytesN]
  | succ j ih =>
    by_cases hj : j < L.length
    · rw [bytesN_take L j hj, List.length_append, beN_length]
      have := (layL_get h hj).2
      omega
    · rw [List.take_of_length_le (by omega)]
      rw [List.take_of_length_le (by omega)] at ih
      omega

end Go.Proofs.Ytmihpbdgilmdiaa
end
