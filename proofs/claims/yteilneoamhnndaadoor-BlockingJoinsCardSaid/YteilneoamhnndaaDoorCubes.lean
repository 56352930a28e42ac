/- Slices of slices of slices (blocks of symbols): as they are read (CubeAt), and as they come in. -/
import Derived.Test.YteilneoamhnndaaDoorElOpen
namespace Go.Proofs.YteilneoamhnndaaDoor
open Go.ChangeShapes Go.WideShapes Go.ChangeAt Go.RowKit Go.Deep

/-- A slice whose elements are slices of slices, which read as the matrices of L. -/
def CubeAt {α : Type} (f : α → Value) (w : World) (v : Value) (L : List (List (List α))) : Prop :=
  ∃ vs : List Value, ListAt id w v vs ∧ vs.length = L.length ∧ ∀ i, MatAt f w (vs.getD i nilS) (L.getD i [])

section
variable {α : Type} {f : α → Value} {w w' : World} {v : Value} {L : List (List (List α))}

theorem CubeAt.mono (h : CubeAt f w v L) (hb : Below w.heap.size w w') : CubeAt f w' v L := by
  obtain ⟨vs, h1, h2, h3⟩ := h
  exact ⟨vs, h1.mono hb, h2, fun i => (h3 i).mono hb⟩

theorem CubeAt.len (h : CubeAt f w v L) : L.length ≤ 9223372036854775807 := by
  obtain ⟨vs, h1, h2, _⟩ := h
  have := h1.len
  omega

theorem CubeAt.opens (h : CubeAt f w v L) : ∃ a cap, v = .slice a L.length cap ∧ L.length ≤ cap ∧ cap ≤ maxLen ∧
    (0 < L.length → ∃ b off, a = some ⟨b, off, none⟩ ∧ ∀ j, j < L.length → ∃ x, w.cell? ⟨b, off + j, none⟩ = some x ∧ MatAt f w x (L.getD j [])) := by
  obtain ⟨vs, ⟨a, cap, rfl, h1, h2, h3⟩, h4, h5⟩ := h
  refine ⟨a, cap, by rw [h4], by omega, h2, fun hp => ?_⟩
  obtain ⟨b, off, rfl, hc⟩ := h3 (by omega)
  refine ⟨b, off, rfl, fun j hj => ⟨vs.getD j nilS, ?_, h5 j⟩⟩
  rw [hc j (by omega)]
  have : j < vs.length := by omega
  simp [this]

theorem CubeAt.nil (f : α → Value) (w : World) : CubeAt f w nilS [] := ⟨[], ListAt.nil _ _, rfl, fun i => by simpa using MatAt.nil f w⟩
end

section
variable {H : Type} {enc : TypeId × Value → H} {P : Program}

theorem cubes_openF {t c e q : TypeId} {v : Value} {d : DataW H} {ps : List MemPlace} {W : World} (ht : P.underlying t = some (.slice c)) (hc : P.underlying c = some (.slice e)) (he : P.underlying e = some (.slice q)) (hq : P.underlying q = some (.int .u8))
    (cc : P.cellsOf c = 1) (ce : P.cellsOf e = 1) (cq : P.cellsOf q = 1) (hok : SliceF v) (h : DataW.Trod enc P W 0 (fun _ => true) true t v d ps) :
    ∃ L : List (List (List Nat)), CubeAt byteV W v L ∧ (∀ m ∈ L, ∀ r ∈ m, Octets r) ∧ ∀ bound : Nat, (d.weights P t).all (· ≤ bound) = true → L.length * P.bytesOf c ≤ bound ∧ ∀ m ∈ L, m.length * P.bytesOf e ≤ bound ∧ ∀ r ∈ m, r.length * P.bytesOf q ≤ bound := by
  obtain ⟨a0, len0, cap0, rfl⟩ := hok
  obtain ⟨fuel, hf⟩ := h
  rcases open_slice1 ht cc hf with ⟨hcs, _⟩ | ⟨a, len, cap, m, n, V, D, Pl, hcs, _, hl, hm, hmm, hx, hel⟩
  · simp [Value.cells] at hcs
    obtain ⟨rfl, rfl, rfl⟩ := hcs
    exact ⟨[], CubeAt.nil _ _, fun p hp => by simp at hp, fun _ _ => ⟨by simp, fun p hp => by simp at hp⟩⟩
  · simp [Value.cells] at hcs
    obtain ⟨rfl, rfl, rfl⟩ := hcs
    simp only [if_true] at hmm
    subst hmm
    have key : ∀ i, i < len0 → ∃ M : List (List Nat), MatAt byteV W (V i) M ∧ (∀ r ∈ M, Octets r) ∧ ∀ bound : Nat, ((D i).weights P c).all (· ≤ bound) = true → M.length * P.bytesOf e ≤ bound ∧ ∀ r ∈ M, r.length * P.bytesOf q ≤ bound := by
      intro i hi
      obtain ⟨-, h2⟩ := hel i (by omega)
      obtain ⟨s0, t0⟩ := fieldRows hc he hq ce cq h2
      exact symbols_openF hc he hq ce cq s0 t0
    obtain ⟨F, hF⟩ := choose_lt (α := List (List Nat)) key
    have hget : ∀ j, j < len0 → ((List.range len0).map F).getD j [] = F j := fun j hj => by
      rw [List.getD_eq_getElem?_getD, List.getElem?_map, List.getElem?_range hj]; rfl
    refine ⟨(List.range len0).map F, ⟨(List.range len0).map V, ⟨some a, _, by simp, by simpa using hl, hm, fun hp => ?_⟩, by simp, fun i => ?_⟩, fun p hp => ?_, fun bound hw => ⟨?_, fun p hp => ?_⟩⟩
    · have hp0 : 0 < len0 := by simpa using hp
      obtain ⟨b, off, spot⟩ := a
      have hspot : spot = none := by simpa [Addr.add] using World.cell?_spot (hel 0 (by omega)).1
      subst hspot
      refine ⟨b, off, rfl, fun j hj => ?_⟩
      have hj' : j < len0 := by simpa using hj
      rw [← Go.WideShapes.add_plain, (hel j (by omega)).1]
      simp
    · by_cases hi : i < len0
      · rw [hget i hi, List.getD_eq_getElem?_getD, List.getElem?_map, List.getElem?_range hi]
        exact (hF i hi).1
      · rw [List.getD_eq_getElem?_getD, List.getElem?_eq_none (by simp; omega), List.getD_eq_getElem?_getD, List.getElem?_eq_none (by simp; omega)]
        exact MatAt.nil _ _
    · obtain ⟨i, hi, rfl⟩ := List.mem_map.1 hp
      exact (hF i (List.mem_range.1 hi)).2.1
    · simp only [Prod.mk.injEq] at hx
      obtain ⟨rfl, rfl⟩ := hx
      rw [List.all_eq_true] at hw
      have := hw ((len0 + (m - len0)) * P.bytesOf c) (by simp [DataW.weights, ht])
      have h2 : len0 * P.bytesOf c ≤ (len0 + (m - len0)) * P.bytesOf c := Nat.mul_le_mul_right _ (by omega)
      have h3 : (len0 + (m - len0)) * P.bytesOf c ≤ bound := by simpa using this
      simpa using Nat.le_trans h2 h3
    · obtain ⟨i, hi, rfl⟩ := List.mem_map.1 hp
      refine (hF i (List.mem_range.1 hi)).2.2 bound ?_
      rw [List.all_eq_true] at hw ⊢
      intro x hx'
      refine hw x ?_
      simp only [Prod.mk.injEq] at hx
      rw [hx.1]
      simp only [DataW.weights, ht]
      exact List.mem_cons_of_mem _ (List.mem_append.2 (.inl (mem_weightsAll (List.mem_map.2 ⟨i, hi, rfl⟩) hx')))
end
end Go.Proofs.YteilneoamhnndaaDoor
