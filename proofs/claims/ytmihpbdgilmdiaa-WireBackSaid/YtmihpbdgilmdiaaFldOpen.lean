/- A field of a struct that came in: a number, bytes (parted from ElOpen). -/
import Derived.Test.YtmihpbdgilmdiaaSyOpen
import Derived.Lib.SmallJoins
import Derived.Deep.Matrix
import Derived.Deep.Grids
import Derived.SizedLaws
namespace Go.Proofs.Ytmihpbdgilmdiaa
open Go.ChangeShapes Go.WideShapes Go.ChangeAt Go.RowKit Go.Deep

def SliceF (v : Value) : Prop := ∃ a l c, v = .slice a l c
section
variable {H : Type} {enc : TypeId × Value → H} {P : Program}

theorem bytes_openF {t e : TypeId} {v : Value} {d : DataW H} {ps : List MemPlace} {W : World} (ht : P.underlying t = some (.slice e)) (he : P.underlying e = some (.int .u8)) (hc : P.cellsOf e = 1)
    (hok : SliceF v) (h : DataW.Trod enc P W 0 (fun _ => true) true t v d ps) :
    ∃ l : List Nat, ListAt byteV W v l ∧ Octets l ∧ (∀ bound : Nat, (d.weights P t).all (· ≤ bound) = true → l.length * P.bytesOf e ≤ bound) ∧ (l.length = 0 ∨ ∃ zs sp, d = .slice (lits .u8 zs) sp ∧ zs.length = l.length) := by
  obtain ⟨a0, len, cap, rfl⟩ := hok
  obtain ⟨fuel, hf⟩ := h
  rcases Go.ChangeShapes.open_ints ht he hc hf with ⟨hcs, _⟩ | ⟨a, len', cap', zs, hcs, _, hl, hm, hlen, hx, hcell, hwf⟩
  · simp [Value.cells] at hcs
    obtain ⟨rfl, rfl, rfl⟩ := hcs
    exact ⟨[], ListAt.nil _ _, fun z hz => by simp at hz, fun _ _ => by simp, .inl rfl⟩
  · simp [Value.cells] at hcs
    obtain ⟨rfl, rfl, rfl⟩ := hcs
    simp at hlen
    have hll : (zs.take len).length = len := by rw [List.length_take]; omega
    have hb : ∀ z ∈ zs.take len, 0 ≤ z ∧ z ≤ 255 := fun z hz => by
      have h1 := hwf z (List.mem_of_mem_take hz)
      have h2 : IntKind.u8.min ≤ z ∧ z ≤ IntKind.u8.max := by simpa [Lit.wf] using h1
      exact h2
    simp only [Prod.mk.injEq] at hx
    obtain ⟨rfl, rfl⟩ := hx
    refine ⟨(zs.take len).map Int.toNat, ⟨some a, cap, by rw [List.length_map, hll], by rw [List.length_map, hll]; exact hl, hm, fun hp => ?_⟩, fun x hx => ?_, fun bound hw => ?_, .inr ⟨zs.take len, _, rfl, by rw [List.length_map]⟩⟩
    · obtain ⟨b, off, spot⟩ := a
      have hp' : 0 < len := by rw [List.length_map, hll] at hp; exact hp
      have hspot : spot = none := by simpa [Addr.add] using World.cell?_spot (hcell 0 (by omega))
      subst hspot
      refine ⟨b, off, rfl, fun j hj => ?_⟩
      rw [List.length_map, hll] at hj
      have hjz : j < zs.length := by omega
      rw [← Go.WideShapes.add_plain, hcell j (by omega)]
      have hz := hb zs[j] (by rw [List.mem_take_iff_getElem]; exact ⟨j, by omega, rfl⟩)
      simp [byteV, hjz]
      omega
    · obtain ⟨z, hz, rfl⟩ := List.mem_map.1 hx
      have := hb z hz
      omega
    · rw [List.all_eq_true] at hw
      have hin : (len + (zs.drop len).length) * P.bytesOf e ∈ DataW.weights P t (.slice (lits (H := H) .u8 (zs.take len)) (lits .u8 (zs.drop len))) := by
        simp only [DataW.weights, ht]
        refine List.mem_cons.2 (.inl ?_)
        congr 1
        simp [lits, List.length_take, List.length_drop]
        omega
      have h1 : (len + (zs.drop len).length) * P.bytesOf e ≤ bound := by simpa using hw _ hin
      have h2 : len * P.bytesOf e ≤ (len + (zs.drop len).length) * P.bytesOf e := Nat.mul_le_mul_right _ (by omega)
      rw [List.length_map, hll]
      exact Nat.le_trans h2 h1

theorem fieldInts {t e : TypeId} {k : IntKind} {v : Value} {x : DataW H × List MemPlace} {W : World} {fuel : Nat} (ht : P.underlying t = some (.slice e)) (he : P.underlying e = some (.int k)) (hc : P.cellsOf e = 1) (h : DataW.trod enc P W 0 (fun _ => true) true fuel t [v] = some x) :
    SliceF v ∧ DataW.Trod enc P W 0 (fun _ => true) true t v x.1 x.2 := by
  have hs : SliceF v := by
    rcases Go.ChangeShapes.open_ints ht he hc h with ⟨hcs, _⟩ | ⟨a, len', cap', zs, hcs, _⟩
    · exact ⟨none, 0, 0, by simpa using hcs⟩
    · exact ⟨_, _, _, by simpa using hcs⟩
  obtain ⟨a, l, c, rfl⟩ := hs
  exact ⟨⟨a, l, c, rfl⟩, fuel, by simpa [Value.cells] using h⟩
theorem fieldInt {t : TypeId} {k : IntKind} {v : Value} {x : DataW H × List MemPlace} {W : World} {fuel : Nat} (ht : P.underlying t = some (.int k)) (h : DataW.trod enc P W 0 (fun _ => true) true fuel t [v] = some x) : ∃ n : Int, v = .int k n := by
  obtain ⟨n, hn, _⟩ := DataW.trod_int ht h
  exact ⟨n, by simpa using hn⟩
end
end Go.Proofs.Ytmihpbdgilmdiaa
