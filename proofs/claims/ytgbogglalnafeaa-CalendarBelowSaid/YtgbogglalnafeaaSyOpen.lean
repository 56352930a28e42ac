/- A slice of bytes, and a slice of such slices, that came in: what they read as, that no row passes the form's own reach, and what data they are. -/
import Derived.Test.YtgbogglalnafeaaNums
import Derived.Test.YtgbogglalnafeaaSyMath
import Derived.Deep.Matrix
import Derived.Deep.Grids
namespace Go.Proofs.Ytgbogglalnafeaa
open Go.ChangeShapes Go.WideShapes Go.ChangeAt Go.RowKit Go.Deep

section
variable {H : Type} {enc : TypeId × Value → H} {P : Program}

theorem symbols_open {t e q : TypeId} {v : Value} {d : DataW H} {ps : List MemPlace} {W : World} {base : Nat} (ht : P.underlying t = some (.slice e)) (he : P.underlying e = some (.slice q)) (hq : P.underlying q = some (.int .u8)) (ce : P.cellsOf e = 1) (cq : P.cellsOf q = 1)
    (hok : Value.okWide P W .any base t v) (h : DataW.Trod enc P W 0 (fun _ => true) true t v d ps) :
    ∃ L : List (List Nat), MatAt byteV W v L ∧ (∀ r ∈ L, Octets r) ∧ ∀ bound : Nat, (d.weights P t).all (· ≤ bound) = true → L.length * P.bytesOf e ≤ bound ∧ ∀ r ∈ L, r.length * P.bytesOf q ≤ bound := by
  obtain ⟨a0, len0, cap0, rfl⟩ := okWide_slice ht hok
  obtain ⟨fuel, hf⟩ := h
  rcases open_int_rows ht he hq ce cq hf with ⟨hcs, _⟩ | ⟨a, len, cap, A, Ls, Cs, Z, hcs, _, hl, hm, hx, hrow⟩
  · simp [Value.cells] at hcs
    obtain ⟨rfl, rfl, rfl⟩ := hcs
    exact ⟨[], MatAt.nil _ _, fun r hr => by simp at hr, fun _ _ => ⟨by simp, fun r hr => by simp at hr⟩⟩
  · simp [Value.cells] at hcs
    obtain ⟨rfl, rfl, rfl⟩ := hcs
    have hb : ∀ r, r < cap0 → ∀ z ∈ Z r, 0 ≤ z ∧ z ≤ 255 := fun r hr z hz => by
      have := (hrow r hr).2.2.2.2.1 z hz
      have h2 : IntKind.u8.min ≤ z ∧ z ≤ IntKind.u8.max := by simpa [Lit.wf] using this
      exact h2
    have hlr : ∀ r, r < len0 → (((Z r).take (Ls r)).map Int.toNat).length = Ls r := fun r hr => by
      obtain ⟨_, h1, _, h3, _⟩ := hrow r (by omega)
      rw [List.length_map, List.length_take]; omega
    refine ⟨(List.range len0).map fun r => ((Z r).take (Ls r)).map Int.toNat, ⟨(List.range len0).map fun r => Value.slice (A r) (Ls r) (Cs r), ?_, by simp, fun i => ?_⟩, fun r hr => ?_, fun bound hw => ?_⟩
    · refine ⟨some a, cap0, by simp, by simpa using hl, hm, fun hp => ?_⟩
      have hp0 : 0 < len0 := by simpa using hp
      obtain ⟨b, off, spot⟩ := a
      have hspot : spot = none := by simpa [Addr.add] using World.cell?_spot (hrow 0 (by omega)).1
      subst hspot
      refine ⟨b, off, rfl, fun j hj => ?_⟩
      have hj' : j < len0 := by simpa using hj
      rw [← Go.WideShapes.add_plain, (hrow j (by omega)).1]
      simp
    · by_cases hi : i < len0
      · obtain ⟨h0, h1, h2, h3, h4, h5, h6⟩ := hrow i (by omega)
        have e1 : ((List.range len0).map fun r => Value.slice (A r) (Ls r) (Cs r)).getD i nilS = .slice (A i) (Ls i) (Cs i) := by simp [hi]
        have e2 : ((List.range len0).map fun r => ((Z r).take (Ls r)).map Int.toNat).getD i [] = ((Z i).take (Ls i)).map Int.toNat := by simp [hi]
        rw [e1, e2]
        refine ⟨A i, Cs i, by rw [hlr i hi], by rw [hlr i hi]; exact h1, h2, fun hp => ?_⟩
        rw [hlr i hi] at hp
        cases hA : A i with
        | none => have := h5 hA; omega
        | some a' =>
          obtain ⟨_, hc⟩ := h6 a' hA
          obtain ⟨b, off, spot⟩ := a'
          have hspot : spot = none := by simpa [Addr.add] using World.cell?_spot (hc 0 (by omega))
          subst hspot
          refine ⟨b, off, rfl, fun j hj => ?_⟩
          rw [hlr i hi] at hj
          have hjz : j < (Z i).length := by omega
          rw [← Go.WideShapes.add_plain, hc j (by omega)]
          have hz := hb i (by omega) _ (List.getElem_mem hjz)
          simp [byteV, hjz]
          omega
      · rw [List.getD_eq_getElem?_getD, List.getElem?_eq_none (by simp; omega), List.getD_eq_getElem?_getD, List.getElem?_eq_none (by simp; omega)]
        exact ListAt.nil _ _
    · obtain ⟨i, hi, rfl⟩ := List.mem_map.1 hr
      have hi' := List.mem_range.1 hi
      intro x hx'
      obtain ⟨z, hz, rfl⟩ := List.mem_map.1 hx'
      have := hb i (by omega) z (List.mem_of_mem_take hz)
      omega
    · simp only [Prod.mk.injEq] at hx
      obtain ⟨rfl, rfl⟩ := hx
      rw [List.all_eq_true] at hw
      have hw' : ∀ x, x ∈ DataW.weights P t (.slice ((List.range len0).map fun r => intRow (H := H) .u8 (A r) (Ls r) (Z r)) ((List.range (cap0 - len0)).map fun j => intRow (H := H) .u8 (A (len0 + j)) (Ls (len0 + j)) (Z (len0 + j)))) → x ≤ bound := fun x hx => by simpa using hw x hx
      constructor
      · have := hw' ((len0 + (cap0 - len0)) * P.bytesOf e) (by simp [DataW.weights, ht])
        have h2 : len0 * P.bytesOf e ≤ (len0 + (cap0 - len0)) * P.bytesOf e := Nat.mul_le_mul_right _ (by omega)
        simpa using Nat.le_trans h2 this
      · intro r hr
        obtain ⟨i, hi, rfl⟩ := List.mem_map.1 hr
        have hi' := List.mem_range.1 hi
        rw [hlr i hi']
        obtain ⟨h0, h1, h2, h3, h4, h5, h6⟩ := hrow i (by omega)
        cases hA : A i with
        | none =>
          have := h5 hA
          have : Ls i = 0 := by omega
          rw [this]; simp
        | some a' =>
          have hin : Cs i * P.bytesOf q ∈ DataW.weights P e (intRow (H := H) .u8 (A i) (Ls i) (Z i)) := by
            rw [hA]
            simp only [intRow, DataW.weights, he]
            refine List.mem_cons.2 (.inl ?_)
            congr 1
            simp [lits, List.length_take, List.length_drop]
            omega
          have := hw' (Cs i * P.bytesOf q) (by
            simp only [DataW.weights, ht]
            exact List.mem_cons_of_mem _ (List.mem_append.2 (.inl (mem_weightsAll (List.mem_map.2 ⟨i, hi, rfl⟩) hin))))
          exact Nat.le_trans (Nat.mul_le_mul_right _ h1) this

theorem bytes_open {t e : TypeId} {v : Value} {d : DataW H} {ps : List MemPlace} {W : World} {base : Nat} (ht : P.underlying t = some (.slice e)) (he : P.underlying e = some (.int .u8)) (hc : P.cellsOf e = 1)
    (hok : Value.okWide P W .any base t v) (h : DataW.Trod enc P W 0 (fun _ => true) true t v d ps) :
    ∃ l : List Nat, ListAt byteV W v l ∧ Octets l ∧ (∀ bound : Nat, (d.weights P t).all (· ≤ bound) = true → l.length * P.bytesOf e ≤ bound) ∧ (l.length = 0 ∨ ∃ zs sp, d = .slice (lits .u8 zs) sp ∧ zs.length = l.length) := by
  obtain ⟨a0, len, cap, rfl⟩ := okWide_slice ht hok
  obtain ⟨fuel, hf⟩ := h
  rcases Go.ChangeShapes.open_ints ht he hc hf with ⟨hcs, _⟩ | ⟨a, len', cap', zs, hcs, _, hl, hm, hlen, hx, hcell, hwf⟩
  · simp [Value.cells] at hcs
    obtain ⟨rfl, rfl, rfl⟩ := hcs
    exact ⟨[], ListAt.nil _ _, fun z hz => by simp at hz, fun _ _ => by simp, .inl rfl⟩
  · simp [Value.cells] at hcs
    obtain ⟨rfl, rfl, rfl⟩ := hcs
    simp at hlen
    have hll : (zs.take len).length = len := by rw [List.length_take]; omega
    have hb : ∀ z ∈ zs.take len, 0 ≤ z ∧ z ≤ 255 := fun z hz => by
      have h1 := hwf z (List.mem_of_mem_take hz)
      have h2 : IntKind.u8.min ≤ z ∧ z ≤ IntKind.u8.max := by simpa [Lit.wf] using h1
      exact h2
    simp only [Prod.mk.injEq] at hx
    obtain ⟨rfl, rfl⟩ := hx
    refine ⟨(zs.take len).map Int.toNat, ⟨some a, cap, by rw [List.length_map, hll], by rw [List.length_map, hll]; exact hl, hm, fun hp => ?_⟩, fun x hx => ?_, fun bound hw => ?_, .inr ⟨zs.take len, _, rfl, by rw [List.length_map]⟩⟩
    · obtain ⟨b, off, spot⟩ := a
      have hp' : 0 < len := by rw [List.length_map, hll] at hp; exact hp
      have hspot : spot = none := by simpa [Addr.add] using World.cell?_spot (hcell 0 (by omega))
      subst hspot
      refine ⟨b, off, rfl, fun j hj => ?_⟩
      rw [List.length_map, hll] at hj
      have hjz : j < zs.length := by omega
      rw [← Go.WideShapes.add_plain, hcell j (by omega)]
      have hz := hb zs[j] (by rw [List.mem_take_iff_getElem]; exact ⟨j, by omega, rfl⟩)
      simp [byteV, hjz]
      omega
    · obtain ⟨z, hz, rfl⟩ := List.mem_map.1 hx
      have := hb z hz
      omega
    · rw [List.all_eq_true] at hw
      have hin : (len + (zs.drop len).length) * P.bytesOf e ∈ DataW.weights P t (.slice (lits (H := H) .u8 (zs.take len)) (lits .u8 (zs.drop len))) := by
        simp only [DataW.weights, ht]
        refine List.mem_cons.2 (.inl ?_)
        congr 1
        simp [lits, List.length_take, List.length_drop]
        omega
      have h1 : (len + (zs.drop len).length) * P.bytesOf e ≤ bound := by simpa using hw _ hin
      have h2 : len * P.bytesOf e ≤ (len + (zs.drop len).length) * P.bytesOf e := Nat.mul_le_mul_right _ (by omega)
      rw [List.length_map, hll]
      exact Nat.le_trans h2 h1
end
end Go.Proofs.Ytgbogglalnafeaa
