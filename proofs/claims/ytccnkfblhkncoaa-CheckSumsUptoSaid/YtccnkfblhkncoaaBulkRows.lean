/- What the bound of the second form says of a slice of slices of bytes: all bytes together are few. -/
import Derived.Test.YtccnkfblhkncoaaBulk
namespace Go.Proofs.Ytccnkfblhkncoaa
open Go.ChangeShapes Go.WideShapes Go.ChangeAt Go.RowKit Go.Deep

theorem bulk_rows {H : Type} (f : Nat → DataW H) (g : Nat → List Nat) : ∀ I : List Nat, (∀ i ∈ I, (g i).length ≤ Rows.uptoBulk (f i)) → (I.map g).flatten.length ≤ Rows.uptoBulkAll (I.map f)
  | [], _ => Nat.zero_le _
  | i :: I, h => by
    have h1 := h i (List.mem_cons_self ..)
    have h2 := bulk_rows f g I fun j hj => h j (List.mem_cons_of_mem _ hj)
    simp only [List.map_cons, List.flatten_cons, List.length_append, Rows.uptoBulkAll]
    omega

theorem rows_bulk {H : Type} {enc : TypeId × Value → H} {P : Program} {t e q : TypeId} {v : Value} {d : DataW H} {ps : List MemPlace} {W : World} {base : Nat} (ht : P.underlying t = some (.slice e)) (he : P.underlying e = some (.slice q)) (hq : P.underlying q = some (.int .u8)) (ce : P.cellsOf e = 1) (cq : P.cellsOf q = 1)
    (hok : Value.okWide P W .any base t v) (h : DataW.Trod enc P W 0 (fun _ => true) true t v d ps) (L : List (List Nat)) (hL : MatAt byteV W v L) : L.flatten.length ≤ Rows.uptoBulk d := by
  obtain ⟨a1, c1, hv, -, -, hcell⟩ := hL.opens
  obtain ⟨a0, len0, cap0, rfl⟩ := okWide_slice ht hok
  injection hv with e1 e2 e3
  subst e1 e2 e3
  obtain ⟨fuel, hf⟩ := h
  rcases open_int_rows ht he hq ce cq hf with ⟨hcs, _⟩ | ⟨a, len, cap, A, Ls, Cs, Z, hcs, _, hl, hm, hx, hrow⟩
  · simp [Value.cells] at hcs
    have : L = [] := hcs.2.1
    subst this
    exact Nat.zero_le _
  · simp [Value.cells] at hcs
    obtain ⟨rfl, rfl, rfl⟩ := hcs
    simp only [Prod.mk.injEq] at hx
    obtain ⟨rfl, -⟩ := hx
    have hmap : L = (List.range L.length).map fun i => L.getD i [] := by
      apply List.ext_getElem
      · simp
      · intro i h1 h2
        simp [List.getD_eq_getElem?_getD, h1]
    have hlen : ∀ i, i < L.length → (L.getD i []).length = Ls i := fun i hi => by
      obtain ⟨b, off, hab, hc⟩ := hcell (by omega)
      injection hab with hab
      subst hab
      obtain ⟨x, hx, ⟨a2, c2, hx2, -⟩⟩ := hc i hi
      have h1 := (hrow i (by omega)).1
      rw [Go.WideShapes.add_plain, hx] at h1
      rw [hx2] at h1
      injection h1 with h1
      injection h1
    have hb := bulk_rows (fun r => intRow (H := H) .u8 (A r) (Ls r) (Z r)) (fun i => L.getD i []) (List.range L.length) fun i hi => by
      have hi' := List.mem_range.1 hi
      show (L.getD i []).length ≤ _
      rw [hlen i hi']
      obtain ⟨h0, h1, h2, h3, h4, h5, h6⟩ := hrow i (by omega)
      cases hA : A i with
      | none =>
        have := h5 hA
        omega
      | some a' =>
        simp only [intRow, Rows.uptoBulk, bulk_lits, List.length_take, List.length_drop]
        omega
    rw [← hmap] at hb
    simp only [Rows.uptoBulk]
    omega
end Go.Proofs.Ytccnkfblhkncoaa
